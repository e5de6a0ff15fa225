import Derived.Test.YtdenlghnfefbnaaZC14
import Derived.Deep.LoopGhost
import Derived.Deep.DeepCutAuto
import Derived.IntWalk
/-
  The walk of StoreLimits.
-/
namespace Go.Proofs.Ytdenlghnfefbnaa
open Go.RowKit

namespace storeLimits
set_option maxRecDepth 100000 in
set_option maxHeartbeats 16000000 in
theorem walk {St : InStore} (K : StoreC St) (L : LimS) (m r v : Int) (a : List OpS) (A : Option Addr) (c : Nat) (w : World) (ha : ChO w w.heap.size A c a) (h1 : I64 L.keys) (h2 : I64 L.vers) (h3 : I64 L.byts) (h4 : L.last < 18446744073709551616) :
    Calls Try.prog 6 #[limVal L m r v, .slice A a.length c] w fun r w' => r = .returned (.bool true) ∧ Below w.heap.size w w' := by
  obtain ⟨keys, vers, byts, last⟩ := L
  simp only at h1 h2 h3 h4
  obtain ⟨w0, hw0⟩ : ∃ y, w.alloc (.cells #[.int .i64 keys, .int .i64 vers, .int .i64 byts, .int .i64 m, .int .i64 r, .int .i64 v, .int .u64 last] 24) = y := ⟨_, rfl⟩
  have b0 : Below w.heap.size w w0 := by rw [← hw0]; exact (Below.refl _ w).alloc (Nat.le_refl _) _
  have s0 : w0.heap.size = w.heap.size + 1 := by rw [← hw0]; simp
  have x0 : w0.heap[w.heap.size]? = some (.cells #[.int .i64 keys, .int .i64 vers, .int .i64 byts, .int .i64 m, .int .i64 r, .int .i64 v, .int .u64 last] 24 (0, 0)) := by rw [← hw0]; exact heap_alloc_new w _
  have HLim : Hid (∀ W, Below w0.heap.size w0 W → W.cell? ⟨w.heap.size, 0, none⟩ = some (.int .i64 keys) ∧ W.cell? ⟨w.heap.size, 1, none⟩ = some (.int .i64 vers) ∧ W.cell? ⟨w.heap.size, 2, none⟩ = some (.int .i64 byts) ∧ W.cell? ⟨w.heap.size, 3, none⟩ = some (.int .i64 m) ∧ W.cell? ⟨w.heap.size, 4, none⟩ = some (.int .i64 r) ∧ W.cell? ⟨w.heap.size, 5, none⟩ = some (.int .i64 v) ∧ W.cell? ⟨w.heap.size, 6, none⟩ = some (.int .u64 last)) := Lib.hid fun W h => by
    have hx := heap_below x0 h (by omega)
    exact ⟨cell_of_row W _ 0 _ _ _ hx, cell_of_row W _ 1 _ _ _ hx, cell_of_row W _ 2 _ _ _ hx, cell_of_row W _ 3 _ _ _ hx, cell_of_row W _ 4 _ _ _ hx, cell_of_row W _ 5 _ _ _ hx, cell_of_row W _ 6 _ _ _ hx⟩
  have ha0 : ChO w0 w.heap.size A c a := ha.below b0 (Nat.le_refl _) (Nat.le_refl _)
  have HL := Lib.hid (live_from K w0)
  have HFA := Lib.hid (few_from (ha.below b0 (Nat.le_refl _) b0.size))
  have hb6 := Below.refl w0.heap.size w0
  have HB0 := Lib.hid b0
  have HZ0 := Lib.hid b0.size
  have HW0 := Lib.hid hw0
  clear b0 s0 x0 hw0
  unfold limVal
  simp only
  by_cases fa : fewO a = true
  · rw [fa] at HFA
    obtain ⟨fwa, fla⟩ := fewO_yes fa
    have HRA := Lib.hid ha0.2.2.2
    have HWA := Lib.hid fwa
    have HK := Lib.hid K
    have hal : a.length ≤ 9223372036854775807 := by omega
    by_cases hm : MayS ⟨keys, vers, byts, last⟩ = true
    · have HMd : Hid (∀ wx, Below w0.heap.size w0 wx → Calls Try.prog 28 #[.agg #[.int .i64 keys, .int .i64 vers, .int .i64 byts, .int .i64 m, .int .i64 r, .int .i64 v, .int .u64 last]] wx fun r w' => ∃ p F, r = .returned (ptrS p) ∧ NewS St w0 w' p F ⟨keys, vers, byts, last⟩ ⟨0, []⟩) := Lib.hid fun wx hb =>
        (made_any K ⟨keys, vers, byts, last⟩ m r v wx h1 h2 h3 h4).mono fun _ _ q => by
          rw [if_pos hm] at q
          obtain ⟨hb2, p, F, e, hst, hF⟩ := q
          exact ⟨p, F, e, hb.trans (hb2.mono hb.size), hst, fun k hk => Nat.le_trans hb.size (hF k hk)⟩
      clear ha ha0 fa fla fwa hm h1 h2 h3
      go_enter Try.func6, Try.ntmps6
      go_upto_region 1 with fail
      rw [HW0.out]
      clear HW0
      go_wp2_with (first
        | (go_at_call 10; (with_reducible refine (HL.out _ (by assumption)).mono ?_); rintro r w' ⟨rfl, hb6⟩)
        | (go_at_call 11; (with_reducible refine (HFA.out _ (by assumption)).mono ?_); rintro r w' ⟨rfl, hb6⟩; obtain ⟨z0, z1, z2, z3, z4, z5, z6⟩ := HLim.out _ hb6)
        | (go_at_call 28; (with_reducible refine (HMd.out _ (by assumption)).mono ?_); rintro r w5 ⟨p, F, rfl, hn⟩; unfold ptrS))
      have HN5 := Lib.hid hn
      clear hn hb6
      go_loopg [29] a.length (fun q i wr => ∃ (j : Nat) (st : PS) (F : Nat → Prop), j + q = a.length ∧ i = .int .i64 j ∧ NewS St w0 wr p F ⟨keys, vers, byts, last⟩ st)
      case atStart => exact ⟨0, ⟨0, []⟩, F, by omega, rfl, HN5.out⟩
      case round =>
        obtain ⟨j, st, G, hk, rfl, hn⟩ := hrel
        have HJ := Lib.hid hk
        have HN := Lib.hid hn
        have HUpA := Lib.hid (Nat.le_trans HZ0.out hn.below.size)
        clear hk hn
        by_cases hj : j < a.length
        · have hlt : decide ((j : Int) < (a.length : Int)) = true := by simpa using hj
          have hlt2 : decide (j < a.length) = true := by simpa using hj
          obtain ⟨b0, o0, A', c', rfl, _, c0, c1, c2, c3, c4, c5, hok⟩ := (HRA.out.below HN.out.below HZ0.out (Nat.le_refl _)).at_ hj
          have hw := HWA.out _ (List.getElem_mem hj)
          generalize a[j] = x at *
          obtain ⟨what, ws, low, tm, klo, khi⟩ := x
          simp only at c0 c1 c2 c3 c4 c5 hw
          have hba := (Below.refl _ wr).alloc (Nat.le_refl _) (.cells #[.int .i64 what, .slice A' ws.length c', .int .u64 low, .int .u64 tm, .string (bs klo), .string (bs khi)] 39)
          obtain ⟨w1, hw1⟩ : ∃ y, wr.alloc (.cells #[.int .i64 what, .slice A' ws.length c', .int .u64 low, .int .u64 tm, .string (bs klo), .string (bs khi)] 39) = y := ⟨_, rfl⟩
          have HW1 := Lib.hid hw1
          have hx1 := heap_alloc_new wr (.cells #[.int .i64 what, .slice A' ws.length c', .int .u64 low, .int .u64 tm, .string (bs klo), .string (bs khi)] 39)
          rw [hw1] at hba hx1
          have HX1 := Lib.hid hx1
          have HN1 := Lib.hid (HN.out.next HK.out hba)
          have HS1 := Lib.hid hba.size
          have hok1 := hok.below hba (hi' := w.heap.size) HUpA.out (Nat.le_refl _)
          obtain ⟨t, ht⟩ : ∃ t, st.time = t := ⟨_, rfl⟩
          have HT := Lib.hid ht
          have ht64 : t < 18446744073709551616 := by
            have h1 := (HK.out.okay HN.out.st).2.1.2
            have h2 := (HK.out.okay HN.out.st).2.2.2.2
            omega
          have HOk := Lib.hid (HK.out.okay HN.out.st)
          have HUp1 := Lib.hid (HK.out.upto HN.out.st)
          have HNow : Hid (∀ W, NewS St w0 W p G ⟨keys, vers, byts, last⟩ st → Calls Try.prog 17 #[.pointer (some ⟨p, 0, none⟩)] W fun r w' => r = .returned (.int .u64 t) ∧ NewS St w0 w' p G ⟨keys, vers, byts, last⟩ st ∧ Below W.heap.size W w') := Lib.hid fun W hn => (HK.out.now p G _ st W hn.st).mono fun _ _ q => ⟨by rw [← ht]; exact q.1, hn.next HK.out q.2, q.2⟩
          have HSc : Hid (∀ W, NewS St w0 W p G ⟨keys, vers, byts, last⟩ st → Calls Try.prog 31 #[.pointer (some ⟨p, 0, none⟩), .string ⟨#[]⟩, .string ⟨#[]⟩, .int .u64 t] W fun r w' => ∃ A c, r = .returned (.slice A (scanS st.K [] [] t).length c) ∧ ChP w' W.heap.size w'.heap.size A c (scanS st.K [] [] t) ∧ NewS St w0 w' p G ⟨keys, vers, byts, last⟩ st ∧ Below W.heap.size W w') := Lib.hid fun W hn => (HK.out.scan p G _ st [] [] t W hn.st (by simp) (by simp) ht64).mono fun _ _ ⟨A, c, e, h1, h2⟩ => ⟨A, c, e, h1, hn.next HK.out h2, h2⟩
          have HDo : Hid (∀ W, NewS St w0 W p G ⟨keys, vers, byts, last⟩ st → Below w1.heap.size w1 W → Calls Try.prog 15 #[.pointer (some ⟨p, 0, none⟩), .agg #[.int .i64 what, .slice A' ws.length c', .int .u64 low, .int .u64 tm, .string (bs klo), .string (bs khi)]] W (DidQ St w0 W p G ⟨keys, vers, byts, last⟩ st ⟨what, ws, low, tm, klo, khi⟩)) := Lib.hid fun W hn hb => does_from HK.out hn ⟨what, ws, low, tm, klo, khi⟩ A' c' hw.1 hw.2.1 hw.2.2 (hok1.below hb (Nat.le_trans HUpA.out HS1.out) HZ0.out)
          generalize hsp : scanS st.K [] [] t = sp at *
          have HSp := Lib.hid hsp
          clear ht hsp hba hx1 hw1 hok hok1 hw
          go_upto_region 9 with fail
          rw [HW1.out]
          clear HW1 c0 c1 c2 c3 c4 c5
          go_wp2_with fail
          refine (HNow.out w1 HN1.out).mono ?_
          rintro r w2 ⟨rfl, hn2, hb2⟩
          have HN2 := Lib.hid hn2
          have HB2 := Lib.hid hb2
          clear hn2 hb2
          go_wp2_with fail
          refine (HNow.out w2 HN2.out).mono ?_
          rintro r w3 ⟨rfl, hn3, hb3⟩
          have HN3 := Lib.hid hn3
          have HB3 := Lib.hid (HB2.out.trans (hb3.mono HB2.out.size))
          clear hn3 hb3
          go_wp2_with fail
          refine (HSc.out w3 HN3.out).mono ?_
          rintro r w4 ⟨A4, c4, rfl, hs4, hn4, hb4⟩
          have HN4 := Lib.hid hn4
          have HS4 := Lib.hid hs4
          have HB4 := Lib.hid (HB3.out.trans (hb4.mono HB3.out.size))
          have hx4 := heap_below HX1.out HB4.out (Nat.lt_of_lt_of_le (lt_of_heap HX1.out) (Nat.le_refl _))
          have HX4 := Lib.hid hx4
          have y0 := cell_of_row w4 _ 0 _ _ _ hx4
          have y1 := cell_of_row w4 _ 1 _ _ _ hx4
          have y2 := cell_of_row w4 _ 2 _ _ _ hx4
          have y3 := cell_of_row w4 _ 3 _ _ _ hx4
          have y4 := cell_of_row w4 _ 4 _ _ _ hx4
          have y5 := cell_of_row w4 _ 5 _ _ _ hx4
          clear hs4 hn4 hb4 hx4
          have HTm := Lib.hid (time_turns ⟨keys, vers, byts, last⟩ st ⟨what, ws, low, tm, klo, khi⟩)
          have HRf := Lib.hid (read_refused HOk.out.1 ⟨keys, vers, byts, last⟩ ⟨what, ws, low, tm, klo, khi⟩)
          rw [HT.out] at HTm HRf
          go_wp2_with fail
          refine (HDo.out w4 HN4.out HB4.out).mono ?_
          rintro r w5 ⟨A9, B9, c9, d9, lo9, hi9, F9, rfl, htold, _, _, _, hn9, hm9, _⟩
          generalize hdo : doesS ⟨keys, vers, byts, last⟩ st ⟨what, ws, low, tm, klo, khi⟩ = dd at *
          obtain ⟨st', td⟩ := dd
          simp only at HTm HRf hn9 htold
          have HN5b := Lib.hid hn9
          have HM9 := Lib.hid hm9
          have HTold := Lib.hid htold
          have hgr : ∀ k, G k → k < wr.heap.size := HUp1.out
          have hx5 : w5.heap[wr.heap.size]? = _ := (hm9.block _ (lt_of_heap HX4.out) (fun hk => by have := hgr _ hk; omega)).trans HX4.out
          have HX5 := Lib.hid hx5
          have HS5 := Lib.hid (HS4.out.keep (w' := w5) fun g h1 h2 => hm9.block g h2 (fun hk => by have := hgr _ hk; have := HB3.out.size; have := HS1.out; omega))
          have hs9 := hm9.size
          have HZ5 := Lib.hid hs9
          clear htold hn9 hm9 hx5 hdo hs9 y0 y1 y2 y3 y4 y5
          have hba6 := (Below.refl _ w5).alloc (Nat.le_refl _) (.cells #[.int .u64 td.n, .int .i64 td.e, .slice A9 td.b.length c9, .bool td.is, .slice B9 td.scan.length d9] 44)
          have HN6 := Lib.hid (HN5b.out.next HK.out hba6)
          have HCnt := Lib.hid (HK.out.count p F9 _ st' _ HN6.out.st)
          have HOk2 := Lib.hid (HK.out.okay HN5b.out.st)
          obtain ⟨w6, hw6⟩ : ∃ y, w5.alloc (.cells #[.int .u64 td.n, .int .i64 td.e, .slice A9 td.b.length c9, .bool td.is, .slice B9 td.scan.length d9] 44) = y := ⟨_, rfl⟩
          have HW6 := Lib.hid hw6
          have hx6 := heap_alloc_new w5 (.cells #[.int .u64 td.n, .int .i64 td.e, .slice A9 td.b.length c9, .bool td.is, .slice B9 td.scan.length d9] 44)
          rw [hw6] at hba6 HN6 HCnt hx6
          have HB6 := Lib.hid hba6
          have HX6 := Lib.hid hx6
          clear hba6 hx6 hw6
          unfold ptrS at HCnt
          unfold toldVal
          go_upto_region 11 with fail
          rw [HW6.out]
          clear HW6
          go_wp2_with fail
          refine HCnt.out.mono ?_
          rintro r w7 ⟨rfl, hb7⟩
          obtain ⟨w8, hw8⟩ : ∃ y, w7.alloc (.cells #[.int .i64 (st'.K.length : Nat), .int .i64 (versS st'.K : Nat), .int .i64 (bytsS st'.K : Nat)] 49) = y := ⟨_, rfl⟩
          have HW8 := Lib.hid hw8
          have hx8 := heap_alloc_new w7 (.cells #[.int .i64 (st'.K.length : Nat), .int .i64 (versS st'.K : Nat), .int .i64 (bytsS st'.K : Nat)] 49)
          have hba8 := (Below.refl _ w7).alloc (Nat.le_refl _) (.cells #[.int .i64 (st'.K.length : Nat), .int .i64 (versS st'.K : Nat), .int .i64 (bytsS st'.K : Nat)] 49)
          rw [hw8] at hx8 hba8
          have HX8 := Lib.hid hx8
          have HB68 := Lib.hid (hb7.trans (hba8.mono hb7.size))
          have HN8 := Lib.hid ((HN6.out.next HK.out hb7).next HK.out hba8)
          have HZ7 := Lib.hid hb7.size
          have HZ8 : Hid (w7.heap.size < w8.heap.size) := Lib.hid (lt_of_heap hx8)
          clear hb7 hx8 hba8 hw8 HCnt
          go_upto_region 12 with fail
          rw [HW8.out]
          clear HW8
          obtain ⟨hz1, hz2, hz3⟩ : st'.K.length ≤ 1048576 ∧ versS st'.K ≤ 1048576 ∧ bytsS st'.K ≤ 1048576 := in_sizes HOk2.out.2.2.1 HOk2.out.2.1
          have hfit := HOk2.out.2.1.1
          have htl : st'.time ≤ last := HOk2.out.2.1.2
          unfold fitsS at hfit
          simp only [Bool.and_eq_true, decide_eq_true_eq] at hfit
          obtain ⟨t', ht'⟩ : ∃ t', st'.time = t' := ⟨_, rfl⟩
          rw [ht'] at htl HTm HRf
          have HT' := Lib.hid ht'
          have HNow2 : Hid (∀ W, Below w8.heap.size w8 W → Calls Try.prog 17 #[.pointer (some ⟨p, 0, none⟩)] W fun r w' => r = .returned (.int .u64 t') ∧ Below w8.heap.size w8 w') := Lib.hid fun W hb => (HK.out.now p F9 _ st' W (HN8.out.next HK.out hb).st).mono fun _ _ q => ⟨by rw [← ht']; exact q.1, hb.trans (q.2.mono hb.size)⟩
          have HC8 : Hid (∀ W, Below w8.heap.size w8 W → W.cell? ⟨w7.heap.size, 0, none⟩ = some (.int .i64 (st'.K.length : Nat)) ∧ W.cell? ⟨w7.heap.size, 1, none⟩ = some (.int .i64 (versS st'.K : Nat)) ∧ W.cell? ⟨w7.heap.size, 2, none⟩ = some (.int .i64 (bytsS st'.K : Nat)) ∧
              W.cell? ⟨w.heap.size, 0, none⟩ = some (.int .i64 keys) ∧ W.cell? ⟨w.heap.size, 1, none⟩ = some (.int .i64 vers) ∧ W.cell? ⟨w.heap.size, 2, none⟩ = some (.int .i64 byts) ∧ W.cell? ⟨w.heap.size, 6, none⟩ = some (.int .u64 last)) := Lib.hid fun W hb => by
            have hx := heap_below HX8.out hb HZ8.out
            obtain ⟨l0, l1, l2, _, _, _, l6⟩ := HLim.out W (HN8.out.next HK.out hb).below
            exact ⟨cell_of_row W _ 0 _ _ _ hx, cell_of_row W _ 1 _ _ _ hx, cell_of_row W _ 2 _ _ _ hx, l0, l1, l2, l6⟩
          have HC6 : Hid (∀ W, Below w8.heap.size w8 W → W.heap[wr.heap.size]? = some (.cells #[.int .i64 what, .slice A' ws.length c', .int .u64 low, .int .u64 tm, .string (bs klo), .string (bs khi)] 39 (0, 0)) ∧ W.heap[w5.heap.size]? = some (.cells #[.int .u64 td.n, .int .i64 td.e, .slice A9 td.b.length c9, .bool td.is, .slice B9 td.scan.length d9] 44 (0, 0))) := Lib.hid fun W hb => by
            have hb6 : Below w6.heap.size w6 W := HB68.out.trans (hb.mono HB68.out.size)
            have l5 := lt_of_heap HX5.out
            exact ⟨(hb6.block _ (by have := HB6.out.size; omega)).trans ((HB6.out.block _ l5).trans HX5.out), heap_below HX6.out hb6 (lt_of_heap HX6.out)⟩
          have d1 : decide (keys < ((st'.K.length : Nat) : Int)) = false := by rw [decide_eq_false_iff_not]; omega
          have d2 : decide (vers < ((versS st'.K : Nat) : Int)) = false := by rw [decide_eq_false_iff_not]; omega
          have d3 : decide (byts < ((bytsS st'.K : Nat) : Int)) = false := by rw [decide_eq_false_iff_not]; omega
          have d4 : decide ((last : Int) < (t' : Int)) = false := by rw [decide_eq_false_iff_not]; omega
          have d5 : decide (last < t') = false := by rw [decide_eq_false_iff_not]; omega
          clear hz1 hz2 hz3 hfit
          refine wp_region_classJ (C := fun w' => Below w8.heap.size w8 w') (by kernel_rfl) (by kernel_rfl) (Below.refl _ _).drew ?_
          repeat (
            refine no_implicit_lambda% (wpQuiet_step ?_)
            intro K hK
            go_simp
            first
            | (refine no_implicit_lambda% (hK _ ?_); clear hK K)
            | (apply Exists.intro
               refine ⟨fun _ => ?_, hK _ ?_⟩
               (first
                 | (intro _; with_reducible rfl)
                 | (intro hw; with_reducible exact HNow2.out _ hw)
                 | (intro hw; obtain ⟨g0, g1, g2, g3, g4, g5, g6⟩ := HC8.out _ hw; go_simp; with_reducible exact ⟨rfl, rfl⟩)
                 | (intro hw; obtain ⟨g0, g1, g2, g3, g4, g5, g6⟩ := HC8.out _ hw; go_simp; with_reducible rfl))
               clear hK K))
          refine wpQuiet_nil ?_

          intro w10 hb10
          have HN10 := Lib.hid (HN8.out.next HK.out hb10)
          have HB10 := Lib.hid hb10
          obtain ⟨hx10, hx11⟩ := HC6.out w10 hb10
          have y0 := cell_of_row w10 _ 0 _ _ _ hx10
          have y1 := cell_of_row w10 _ 1 _ _ _ hx10
          have u0 := cell_of_row w10 _ 0 _ _ _ hx11
          have u1 := cell_of_row w10 _ 1 _ _ _ hx11
          clear hx10 hx11 d1 d2 d3 d4 d5
          rcases HTm.out with ⟨k0, k1, k2, k3, k4⟩ | ⟨kn, k3⟩
          · have e1 : (what == 0) = true := by rw [k0]; rfl
            have e2 : (td.e == 0) = true := by rw [k1]; rfl
            have e3 : decide (0 < (ws.length : Int)) = true := by
              have : 0 < ws.length := List.length_pos_iff.2 k2
              rw [decide_eq_true_iff]; omega
            have e4 : decide (0 < ws.length) = true := by
              have : 0 < ws.length := List.length_pos_iff.2 k2
              rw [decide_eq_true_iff]; omega
            have e5 : ((t' : Int) == (t : Int) + 1) = true := by rw [beq_iff_eq]; omega
            have e6 : ((td.n : Int) == (t : Int) + 1) = true := by rw [beq_iff_eq]; omega
            have e7 : (t' : Int) = (t : Int) + 1 := by omega
            have e8 : (td.n : Int) = (t : Int) + 1 := by omega
            have hwr : IntKind.u64.wrap ((t : Int) + 1) = (t : Int) + 1 := IntWalk.u64_in _ ⟨by omega, by omega⟩
            clear k0 k1 k2 k3 k4
            go_wp2_with fail
            refine (HNow2.out w10 HB10.out).mono ?_
            rintro r w11 ⟨rfl, hb11⟩
            have HN11 := Lib.hid (HN8.out.next HK.out hb11)
            obtain ⟨hx10, hx11⟩ := HC6.out w11 hb11
            have v0 := cell_of_row w11 _ 0 _ _ _ hx11
            clear hx10 hx11 hb11
            go_wp2_with fail
            go_roundg (gk - 1)
            case measure => have := HJ.out; omega
            case rel => exact ⟨j + 1, st', F9, by have := HJ.out; omega, by go_num, HN11.out⟩
          · have e9 : ((t' : Int) == (t : Int)) = true := by rw [beq_iff_eq]; omega
            have HSame : Hid (scanS st'.K [] [] t = sp) := Lib.hid (by rw [← HSp.out]; exact scan_same HOk2.out.1.sort HOk.out.1.sort fun k => HRf.out k3 k)
            have k3' : (t' : Int) = (t : Int) := by omega
            clear k3'
            by_cases k0 : what = 0
            · have e1 : (what == 0) = true := by rw [k0]; rfl
              by_cases k1 : td.e = 0
              · have e2 : (td.e == 0) = true := by rw [k1]; rfl
                have hws : ws = [] := Classical.byContradiction fun h => kn ⟨k0, k1, h⟩
                have e3 : decide (0 < (ws.length : Int)) = false := by rw [hws]; rfl
                have e4 : decide (0 < ws.length) = false := by rw [hws]; rfl
                have e10 : ws.length = 0 := by rw [hws]; rfl
                clear hws k0 k1 kn e10
                go_wp2_with fail
                refine (HNow2.out w10 HB10.out).mono ?_
                rintro r w11 ⟨rfl, hb11⟩
                have HN11 := Lib.hid (HN8.out.next HK.out hb11)
                have HB11 := Lib.hid hb11
                have HSc2 := Lib.hid (HK.out.scan p F9 _ st' [] [] t w11 HN11.out.st (by simp) (by simp) ht64)
                rw [HSame.out, bs_nil] at HSc2
                unfold ptrS at HSc2
                clear hb11 y0 y1 u0 u1
                go_wp2_with fail
                refine HSc2.out.mono ?_
                rintro r w12 ⟨A12, c12, rfl, hs12, hb12⟩
                have HN12 := Lib.hid (HN11.out.next HK.out hb12)
                have hk12 := (HS5.out).keep (w' := w12) fun g h1 h2 => by
                  have h3 : g < w5.heap.size := Nat.lt_of_lt_of_le h2 HZ5.out
                  have h4 : Below w6.heap.size w6 w12 := HB68.out.trans ((HB11.out.trans (hb12.mono HB11.out.size)).mono HB68.out.size)
                  exact (h4.block g (Nat.lt_of_lt_of_le h3 HB6.out.size)).trans (HB6.out.block g h3)
                have hspl : sp.length ≤ 9223372036854775807 := by have := hs12.1; have := hs12.2.1; unfold maxLen at *; omega
                have HSm := Lib.hid (samePairs_any sp sp A4 A12 c4 c12 _ _ _ _ w12 hspl hspl hk12.2.2.2 hs12.2.2.2)
                rw [show sameP sp sp = true from by unfold sameP; simp] at HSm
                clear hs12 hb12 hk12 HSc2
                go_wp2_with fail
                refine HSm.out.mono ?_
                rintro r w13 ⟨rfl, hb13⟩
                have HN13 := Lib.hid (HN12.out.next HK.out hb13)
                clear hb13 HSm
                go_wp2_with fail
                go_roundg (gk - 1)
                case measure => have := HJ.out; omega
                case rel => exact ⟨j + 1, st', F9, by have := HJ.out; omega, by go_num, HN13.out⟩
              · have e2 : (td.e == 0) = false := by rw [beq_eq_false_iff_ne]; exact k1
                clear k0 k1 kn
                go_wp2_with fail
                refine (HNow2.out w10 HB10.out).mono ?_
                rintro r w11 ⟨rfl, hb11⟩
                have HN11 := Lib.hid (HN8.out.next HK.out hb11)
                have HB11 := Lib.hid hb11
                have HSc2 := Lib.hid (HK.out.scan p F9 _ st' [] [] t w11 HN11.out.st (by simp) (by simp) ht64)
                rw [HSame.out, bs_nil] at HSc2
                unfold ptrS at HSc2
                clear hb11 y0 y1 u0 u1
                go_wp2_with fail
                refine HSc2.out.mono ?_
                rintro r w12 ⟨A12, c12, rfl, hs12, hb12⟩
                have HN12 := Lib.hid (HN11.out.next HK.out hb12)
                have hk12 := (HS5.out).keep (w' := w12) fun g h1 h2 => by
                  have h3 : g < w5.heap.size := Nat.lt_of_lt_of_le h2 HZ5.out
                  have h4 : Below w6.heap.size w6 w12 := HB68.out.trans ((HB11.out.trans (hb12.mono HB11.out.size)).mono HB68.out.size)
                  exact (h4.block g (Nat.lt_of_lt_of_le h3 HB6.out.size)).trans (HB6.out.block g h3)
                have hspl : sp.length ≤ 9223372036854775807 := by have := hs12.1; have := hs12.2.1; unfold maxLen at *; omega
                have HSm := Lib.hid (samePairs_any sp sp A4 A12 c4 c12 _ _ _ _ w12 hspl hspl hk12.2.2.2 hs12.2.2.2)
                rw [show sameP sp sp = true from by unfold sameP; simp] at HSm
                clear hs12 hb12 hk12 HSc2
                go_wp2_with fail
                refine HSm.out.mono ?_
                rintro r w13 ⟨rfl, hb13⟩
                have HN13 := Lib.hid (HN12.out.next HK.out hb13)
                clear hb13 HSm
                go_wp2_with fail
                go_roundg (gk - 1)
                case measure => have := HJ.out; omega
                case rel => exact ⟨j + 1, st', F9, by have := HJ.out; omega, by go_num, HN13.out⟩
            · have e1 : (what == 0) = false := by rw [beq_eq_false_iff_ne]; exact k0
              clear k0 kn
              go_wp2_with fail
              refine (HNow2.out w10 HB10.out).mono ?_
              rintro r w11 ⟨rfl, hb11⟩
              have HN11 := Lib.hid (HN8.out.next HK.out hb11)
              have HB11 := Lib.hid hb11
              have HSc2 := Lib.hid (HK.out.scan p F9 _ st' [] [] t w11 HN11.out.st (by simp) (by simp) ht64)
              rw [HSame.out, bs_nil] at HSc2
              unfold ptrS at HSc2
              clear hb11 y0 y1 u0 u1
              go_wp2_with fail
              refine HSc2.out.mono ?_
              rintro r w12 ⟨A12, c12, rfl, hs12, hb12⟩
              have HN12 := Lib.hid (HN11.out.next HK.out hb12)
              have hk12 := (HS5.out).keep (w' := w12) fun g h1 h2 => by
                have h3 : g < w5.heap.size := Nat.lt_of_lt_of_le h2 HZ5.out
                have h4 : Below w6.heap.size w6 w12 := HB68.out.trans ((HB11.out.trans (hb12.mono HB11.out.size)).mono HB68.out.size)
                exact (h4.block g (Nat.lt_of_lt_of_le h3 HB6.out.size)).trans (HB6.out.block g h3)
              have hspl : sp.length ≤ 9223372036854775807 := by have := hs12.1; have := hs12.2.1; unfold maxLen at *; omega
              have HSm := Lib.hid (samePairs_any sp sp A4 A12 c4 c12 _ _ _ _ w12 hspl hspl hk12.2.2.2 hs12.2.2.2)
              rw [show sameP sp sp = true from by unfold sameP; simp] at HSm
              clear hs12 hb12 hk12 HSc2
              go_wp2_with fail
              refine HSm.out.mono ?_
              rintro r w13 ⟨rfl, hb13⟩
              have HN13 := Lib.hid (HN12.out.next HK.out hb13)
              clear hb13 HSm
              go_wp2_with fail
              go_roundg (gk - 1)
              case measure => have := HJ.out; omega
              case rel => exact ⟨j + 1, st', F9, by have := HJ.out; omega, by go_num, HN13.out⟩
        · have hlt : decide ((j : Int) < (a.length : Int)) = false := by simpa using hj
          have HB := Lib.hid (HB0.out.trans (HN.out.below.mono HB0.out.size))
          go_wp2_with fail
          go_ret
          exact ⟨rfl, HB.out⟩
    · have HMd : Hid (∀ wx, Below w0.heap.size w0 wx → Calls Try.prog 28 #[.agg #[.int .i64 keys, .int .i64 vers, .int .i64 byts, .int .i64 m, .int .i64 r, .int .i64 v, .int .u64 last]] wx fun r w' => r = .returned (.pointer none) ∧ Below w0.heap.size w0 w') := Lib.hid fun wx hb =>
        (made_any K ⟨keys, vers, byts, last⟩ m r v wx h1 h2 h3 h4).mono fun _ _ q => by
          rw [if_neg hm] at q
          exact ⟨q.2, hb.trans (q.1.mono hb.size)⟩
      have HMay : Hid (∀ wx, Below w0.heap.size w0 wx → Calls Try.prog 13 #[.agg #[.int .i64 keys, .int .i64 vers, .int .i64 byts, .int .i64 m, .int .i64 r, .int .i64 v, .int .u64 last]] wx fun r w' => r = .returned (.bool false) ∧ Below w0.heap.size w0 w') := Lib.hid fun wx hb =>
        (may_any ⟨keys, vers, byts, last⟩ m r v wx).mono fun _ _ q => by
          rw [show MayS ⟨keys, vers, byts, last⟩ = false by simpa using hm] at q
          exact ⟨q.1, hb.trans (q.2.mono hb.size)⟩
      clear K ha ha0 fa fla fwa hm h1 h2 h3
      go_enter Try.func6, Try.ntmps6
      go_upto_region 1 with fail
      rw [HW0.out]
      clear HW0
      go_wp2_with (first
        | (go_at_call 10; (with_reducible refine (HL.out _ (by assumption)).mono ?_); rintro r w' ⟨rfl, hb6⟩)
        | (go_at_call 11; (with_reducible refine (HFA.out _ (by assumption)).mono ?_); rintro r w' ⟨rfl, hb6⟩; obtain ⟨z0, z1, z2, z3, z4, z5, z6⟩ := HLim.out _ hb6)
        | (go_at_call 28; (with_reducible refine (HMd.out _ (by assumption)).mono ?_); rintro r w' ⟨rfl, hb6⟩; obtain ⟨z0, z1, z2, z3, z4, z5, z6⟩ := HLim.out _ hb6)
        | (go_at_call 13; (with_reducible refine (HMay.out _ (by assumption)).mono ?_); rintro r w' ⟨rfl, hb6⟩))
      go_ret
      exact ⟨rfl, HB0.out.trans (hb6.mono HB0.out.size)⟩
  · rw [show fewO a = false by simpa using fa] at HFA
    clear K ha ha0 fa h1 h2 h3
    go_enter Try.func6, Try.ntmps6
    go_upto_region 1 with fail
    rw [HW0.out]
    clear HW0
    go_wp2_with (first
      | (go_at_call 10; (with_reducible refine (HL.out _ (by assumption)).mono ?_); rintro r w' ⟨rfl, hb6⟩)
      | (go_at_call 11; (with_reducible refine (HFA.out _ (by assumption)).mono ?_); rintro r w' ⟨rfl, hb6⟩))
    go_ret
    exact ⟨rfl, HB0.out.trans (hb6.mono HB0.out.size)⟩
end storeLimits
end Go.Proofs.Ytdenlghnfefbnaa
