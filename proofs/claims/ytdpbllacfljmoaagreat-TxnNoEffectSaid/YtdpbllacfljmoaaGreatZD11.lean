import Derived.Test.YtdpbllacfljmoaaGreatZD10
import Derived.Deep.LoopGhost
import Derived.Deep.DeepCutAuto
import Derived.IntWalk
set_option maxRecDepth 100000
set_option maxHeartbeats 16000000
set_option linter.unusedVariables false
namespace Go.Proofs.YtdpbllacfljmoaaGreat
open Go.RowKit
theorem qcJ {w : World} {h : Nat} {t : TypeId} {a0 a1 a2 a3 a4 : Value} (hb : w.heap[h]? = some (.cells #[a0, a1, a2, a3, a4] t (0, 0))) : w.cell? ⟨h, 0, none⟩ = some a0 ∧ w.cell? ⟨h, 1, none⟩ = some a1 ∧ w.cell? ⟨h, 2, none⟩ = some a2 ∧ w.cell? ⟨h, 3, none⟩ = some a3 ∧ w.cell? ⟨h, 4, none⟩ = some a4 :=
 ⟨cell_of_row w h 0 _ _ _ hb, cell_of_row w h 1 _ _ _ hb, cell_of_row w h 2 _ _ _ hb, cell_of_row w h 3 _ _ _ hb, cell_of_row w h 4 _ _ _ hb⟩
theorem qbV {F : List Sp → List Sp} {M : Nat} {L : LimT} {b : q08} (h : OkTx L M b) (o : OpT) : b.st.time ≤ (q0Q F L b o).1.st.time := by
 rcases qat (F := F) h o with ⟨h4, _⟩ | ⟨_, _, e, _⟩
 ·have e : q0Q F L b o = q0l F L b o.id := by unfold q0Q; rw [h4]; rfl
  rw [e]
  unfold q0l
  split
  ·exact Nat.le_refl _
  ·split
   ·exact Nat.le_refl _
   ·split
    ·exact Nat.le_refl _
    ·split
     ·exact q4f _ _ _ _
     ·exact q4f _ _ _ _
 ·exact Nat.le_of_eq e.symm
theorem qey {L : LimT} {M k : Nat} {b : q08} (_ : OkTx L M b) (h : WgtT b ≤ k) : b.hist.length ≤ k := by
 have h1 : ∀ l : List q5j, l.length ≤ (l.map q4I).sum := fun l => by
  induction l with
  | nil => exact Nat.le_refl _
  | cons x l ih =>
   simp only [List.length_cons, List.map_cons, List.sum_cons]
   have : 1 ≤ q4I x := by unfold q4I; omega
   omega
 have := h1 b.hist
 unfold WgtT at h
 omega
namespace txnNoEffect
theorem walk {St : q2p} (K : TxnC St) (O : TxnO St) (L : LimT) (a : List OpT) (A : Option Addr) (c : Nat) (w : World) (ha : ChOT w w.heap.size A c a) (h1 : I64 L.s.keys) (h2 : I64 L.s.vers) (h3 : I64 L.s.byts) (h4 : L.s.last < 18446744073709551616) (h5 : I64 L.marks) (h6 : I64 L.recs) (h7 : I64 L.live) :
  Calls Tryz.prog 7 #[limT L, .slice A a.length c] w fun r w' => r = .returned (.bool true) ∧ Below w.heap.size w w' := by
 obtain ⟨⟨keys, vers, byts, last⟩, marks, recs, live⟩ := L
 simp only at h1 h2 h3 h4 h5 h6 h7
 obtain ⟨w0, hw0⟩ : ∃ y, w.alloc (.cells #[.int .i64 keys, .int .i64 vers, .int .i64 byts, .int .i64 marks, .int .i64 recs, .int .i64 live, .int .u64 last] 24) = y := ⟨_, rfl⟩
 have b0 : Below w.heap.size w w0 := by rw [← hw0]; exact (Below.refl _ w).alloc (Nat.le_refl _) _
 have x0 : w0.heap[w.heap.size]? = some (.cells #[.int .i64 keys, .int .i64 vers, .int .i64 byts, .int .i64 marks, .int .i64 recs, .int .i64 live, .int .u64 last] 24 (0, 0)) := by rw [← hw0]; exact heap_alloc_new w _
 have HLim := qh (fun (W : World) (h : Below w0.heap.size w0 W) => q80 (q01 x0 h (q00 x0)))
 have ha0 : ChOT w0 w.heap.size A c a := ha.below b0 (Nat.le_refl _) (Nat.le_refl _)
 have HL := qh (qbz K w0)
 have HFA := qh (qcC (ha.below b0 (Nat.le_refl _) b0.size))
 have hb6 := Below.refl w0.heap.size w0
 have HB0 := qh b0
 have HZ0 := qh b0.size
 have HW0 := qh hw0
 clear b0 x0 hw0
 unfold limT q3A
 simp only
 by_cases fa : fewT a = true
 ·rw [fa] at HFA
  obtain ⟨fwa, fla⟩ := qeu fa
  have HRA := qh ha0.2.2.2
  have HWA := qh fwa
  have HK := qh K
  have HO := qh O
  have HFlA := qh fla
  have hal : a.length ≤ 9223372036854775807 := by omega
  by_cases hm : MayT ⟨⟨keys, vers, byts, last⟩, marks, recs, live⟩ = true
  ·have HMd : Hid (∀ wx, Below w0.heap.size w0 wx → Calls Tryz.prog 35 #[.agg #[.int .i64 keys, .int .i64 vers, .int .i64 byts, .int .i64 marks, .int .i64 recs, .int .i64 live, .int .u64 last]] wx fun r w' => ∃ p F, r = .returned (ptrS p) ∧ RunT St w0 w' p F ⟨⟨keys, vers, byts, last⟩, marks, recs, live⟩ q3u 0) := qh fun wx hb =>
    (q6d K ⟨⟨keys, vers, byts, last⟩, marks, recs, live⟩ w0.heap.size wx hb.size h1 h2 h3 h4 h5 h6 h7).mono fun r W' ⟨h1, h2⟩ => by
     rw [if_pos hm] at h2
     obtain ⟨p, F, e, h3, h4⟩ := h2
     exact ⟨p, F, e, RunT.of K h3 (hb.trans (h1.mono hb.size))⟩
   clear ha ha0 fa fla fwa hm h1 h2 h3 h4 h5 h6 h7 K O
   go_enter Tryz.func7, Tryz.ntmps7
   go_upto_region 1 with fail
   rw [HW0.out]
   clear HW0
   go_wp2_with (first
    | (go_at_call 12; (with_reducible refine (HL.out _ (by assumption)).mono ?_); rintro r w' ⟨rfl, hb6⟩)
    | (go_at_call 13; (with_reducible refine (HFA.out _ (by assumption)).mono ?_); rintro r w' ⟨rfl, hb6⟩; obtain ⟨z0, z1, z2, z3, z4, z5, z6⟩ := HLim.out _ hb6)
    | (go_at_call 35; (with_reducible refine (HMd.out _ (by assumption)).mono ?_); rintro r w5 ⟨p, F, rfl, hn⟩; unfold ptrS))
   have HN5 := qh hn
   clear hn hb6 HL HFA HMd
   go_loopg [29] a.length (fun q i wr => ∃ (j : Nat) (st : q08) (F : Nat → Prop), j + q = a.length ∧ i = .int .i64 j ∧ st.st.time ≤ j ∧ RunT St w0 wr p F ⟨⟨keys, vers, byts, last⟩, marks, recs, live⟩ st j)
   case atStart => exact ⟨0, q3u, F, by omega, rfl, Nat.le_refl _, HN5.out⟩
   case round =>
    obtain ⟨j, st, G, hk, rfl, htm, hn⟩ := hrel
    have HJ := qh hk
    have HN := qh hn
    have HTj := qh htm
    clear hk hn htm
    by_cases hj : j < a.length
    ·have hlt : decide ((j : Int) < (a.length : Int)) = true := by simpa using hj
     have hlt2 : decide (j < a.length) = true := by simpa using hj
     have HJ8 : Hid (j ≤ 80) := qh (by have := HFlA.out; omega)
     obtain ⟨b0, o0, rfl, _, x, hx, hok, c0, c1, c2, c3, c4, c5⟩ := (HRA.out.below HN.out.bel HZ0.out (Nat.le_refl _)).at_ hj
     have hw := HWA.out _ (List.getElem_mem hj)
     rw [← hx] at hw
     clear hx
     obtain ⟨⟨what, id, ⟨wk, wg, wd⟩, hi⟩, A', c'⟩ := x
     simp only at c0 c1 c2 c3 c4 c5 hw
     have hba := (Below.refl _ wr).alloc (Nat.le_refl _) (.cells #[.int .i64 what, .int .i64 id, .string (bs wk), .bool wg, .slice A' wd.length c', .string (bs hi)] 39)
     have hx1 := heap_alloc_new wr (.cells #[.int .i64 what, .int .i64 id, .string (bs wk), .bool wg, .slice A' wd.length c', .string (bs hi)] 39)
     obtain ⟨w1, hw1⟩ : ∃ y, wr.alloc (.cells #[.int .i64 what, .int .i64 id, .string (bs wk), .bool wg, .slice A' wd.length c', .string (bs hi)] 39) = y := ⟨_, rfl⟩
     have HW1 := qh hw1
     rw [hw1] at hba hx1
     have HX1 := qh hx1
     have hn1 := HN.out.next HK.out hba
     have HN1 := qh hn1
     have hok1 := hok.below hba (Nat.le_trans HZ0.out HN.out.bel.size) HZ0.out
     have HDo : Hid (∀ W, RunT St w0 W p G ⟨⟨keys, vers, byts, last⟩, marks, recs, live⟩ st j → Below w1.heap.size w1 W → Calls Tryz.prog 18 #[.pointer (some ⟨p, 0, none⟩), .agg #[.int .i64 what, .int .i64 id, .string (bs wk), .bool wg, .slice A' wd.length c', .string (bs hi)]] W (DidT St w0 W p G ⟨⟨keys, vers, byts, last⟩, marks, recs, live⟩ st j ⟨what, id, ⟨wk, wg, wd⟩, hi⟩)) := qh fun W hn hb => qes HK.out hn (by have := HJ8.out; omega) ⟨what, id, ⟨wk, wg, wd⟩, hi⟩ A' c' hw.1 hw.2 (hok1.below hb hn1.bel.size (Nat.le_refl _))
     have HTm := qh (qat (F := FT ⟨⟨keys, vers, byts, last⟩, marks, recs, live⟩) HN.out.ok ⟨what, id, ⟨wk, wg, wd⟩, hi⟩)
     have HTu := qh (qbV (F := FT ⟨⟨keys, vers, byts, last⟩, marks, recs, live⟩) HN.out.ok ⟨what, id, ⟨wk, wg, wd⟩, hi⟩)
     have HUp := qh (HK.out.upto hn1.st)
     have hAl := HO.out.all w0.heap.size p G ⟨⟨keys, vers, byts, last⟩, marks, recs, live⟩ st w1 hn1.st
     have HNw : Hid (∀ W, RunT St w0 W p G ⟨⟨keys, vers, byts, last⟩, marks, recs, live⟩ st j → Calls Tryz.prog 20 #[.pointer (some ⟨p, 0, none⟩)] W fun r w' => r = .returned (.int .u64 st.st.time) ∧ Below W.heap.size W w') := qh fun W hn => HK.out.now _ p G _ st W hn.st
     have HHi : Hid (∀ W, RunT St w0 W p G ⟨⟨keys, vers, byts, last⟩, marks, recs, live⟩ st j → Calls Tryz.prog 31 #[.pointer (some ⟨p, 0, none⟩)] W fun r w' => ∃ A c, r = .returned (.slice A st.hist.length c) ∧ Below W.heap.size W w') := qh fun W hn => (HK.out.history _ p G _ st W hn.st (hn.few (by have := HJ8.out; omega))).mono fun _ _ ⟨A, c, e, _, h⟩ => ⟨A, c, e, h⟩
     have HOk := qh HN.out.ok
     obtain ⟨sp, hsp⟩ : ∃ y, q1q st.st.K [] [] st.st.time = y := ⟨_, rfl⟩
     have HSp := qh hsp
     rw [hsp] at hAl
     have HAl := qh hAl
     obtain ⟨t, ht⟩ : ∃ y, st.st.time = y := ⟨_, rfl⟩
     have HT := qh ht
     rw [ht] at HNw HTj
     obtain ⟨n, hn⟩ : ∃ y, st.hist.length = y := ⟨_, rfl⟩
     have HHn := qh hn
     rw [hn] at HHi
     clear hba hx1 hw1 hok hok1 hw hn1 hAl hsp ht hn
     unfold ptrS at HAl
     go_upto_region 9 with fail
     rw [HW1.out]
     clear HW1 c0 c1 c2 c3 c4 c5
     go_wp2_with fail
     refine HAl.out.mono ?_
     rintro r w2 ⟨A2, c2, rfl, hp2, hb2⟩
     have HN2 := qh (HN1.out.next HK.out hb2)
     have HP2 := qh hp2
     have HB2 := qh hb2
     clear hp2 hb2 HAl
     go_wp2_with fail
     refine (HNw.out w2 HN2.out).mono ?_
     rintro r w3 ⟨rfl, hb3⟩
     have HN3 := qh (HN2.out.next HK.out hb3)
     have HB23 := qh hb3
     clear hb3
     go_wp2_with fail
     refine (HHi.out w3 HN3.out).mono ?_
     rintro r w4 ⟨A4, c4, rfl, hb4⟩
     have HN4 := qh (HN3.out.next HK.out hb4)
     have HB24 := qh (HB23.out.trans (hb4.mono HB23.out.size))
     have HB4 := qh (HB2.out.trans (HB24.out.mono HB2.out.size))
     have hx4 := q01 HX1.out HB4.out (q00 HX1.out)
     have HX4 := qh hx4
     obtain ⟨y0, y1, y2, y3, y4, y5⟩ := q0Z hx4
     clear hb4 hx4
     go_wp2_with fail
     refine (HDo.out w4 HN4.out HB4.out).mono ?_
     rintro r w5 ⟨A9, B9, c9, d9, F9, rfl, _, hr9, hm9, _⟩
     have hP5 : PaS w5 (fun _ => True) A2 c2 sp := HP2.out.keep fun g hg hlt => ⟨(hm9.block g (Nat.lt_of_lt_of_le hlt HB24.out.size) (fun hf => by have := HUp.out g hf; omega)).trans (HB24.out.block g hlt), trivial⟩
     have HP5 := qh hP5
     have hx5 : w5.heap[wr.heap.size]? = _ := (hm9.block _ (q00 HX4.out) (fun hf => by have := HN.out.bel.size; have := (HK.out.upto HN.out.st _ hf).2; omega)).trans HX4.out
     have HX5 := qh hx5
     generalize hdo : q0Q (FT ⟨⟨keys, vers, byts, last⟩, marks, recs, live⟩) ⟨⟨keys, vers, byts, last⟩, marks, recs, live⟩ st ⟨what, id, ⟨wk, wg, wd⟩, hi⟩ = dd at *
     obtain ⟨b9, td⟩ := dd
     simp only at HTm HTu hr9
     have HR5 := qh hr9
     clear hr9 hm9 hP5 hx5 hdo y0 y1 y2 y3 y4 y5 HNw HHi
     have hba6 := (Below.refl _ w5).alloc (Nat.le_refl _) (.cells #[.int .u64 td.n, .int .i64 td.e, .slice A9 td.b.length c9, .bool td.is, .slice B9 td.scan.length d9] 43)
     have hx6 := heap_alloc_new w5 (.cells #[.int .u64 td.n, .int .i64 td.e, .slice A9 td.b.length c9, .bool td.is, .slice B9 td.scan.length d9] 43)
     obtain ⟨w6, hw6⟩ : ∃ y, w5.alloc (.cells #[.int .u64 td.n, .int .i64 td.e, .slice A9 td.b.length c9, .bool td.is, .slice B9 td.scan.length d9] 43) = y := ⟨_, rfl⟩
     have HW6 := qh hw6
     rw [hw6] at hba6 hx6
     have hx56 := q01 HX5.out hba6 (q00 HX5.out)
     have HR6 := qh (HR5.out.next HK.out hba6)
     have HB6 := qh hba6
     obtain ⟨u0, u1, u2, u3, u4⟩ := qcJ hx6
     obtain ⟨y0, y1, y2, y3, y4, y5⟩ := q0Z hx56
     have HX6 := qh hx6
     clear hba6 hx6 hw6 hx56
     unfold q2o
     go_upto_region 11 with fail
     rw [HW6.out]
     clear HW6
     obtain ⟨t', ht'⟩ : ∃ y, b9.st.time = y := ⟨_, rfl⟩
     have HT' := qh ht'
     obtain ⟨n', hn'⟩ : ∃ y, b9.hist.length = y := ⟨_, rfl⟩
     have HNw : Hid (∀ W, Below w6.heap.size w6 W → Calls Tryz.prog 20 #[.pointer (some ⟨p, 0, none⟩)] W fun r w' => r = .returned (.int .u64 t') ∧ Below w6.heap.size w6 w') := qh fun W hb => (HK.out.now _ p F9 _ b9 W (HR6.out.next HK.out hb).st).mono fun _ _ q => ⟨by rw [← ht']; exact q.1, hb.trans (q.2.mono hb.size)⟩
     have HHi : Hid (∀ W, Below w6.heap.size w6 W → Calls Tryz.prog 31 #[.pointer (some ⟨p, 0, none⟩)] W fun r w' => ∃ A c, r = .returned (.slice A n' c) ∧ Below w6.heap.size w6 w') := qh fun W hb => (HK.out.history _ p F9 _ b9 W (HR6.out.next HK.out hb).st ((HR6.out.next HK.out hb).few (by have := HJ8.out; omega))).mono fun _ _ ⟨A, c, e, _, h⟩ => ⟨A, c, by rw [← hn']; exact e, hb.trans (h.mono hb.size)⟩
     have HAl : Hid ((t' = t → ∀ k, q0E b9.st.K k t = q0E st.st.K k t) → t' = t → ∀ W, Below w6.heap.size w6 W → Calls Tryz.prog 33 #[.pointer (some ⟨p, 0, none⟩)] W fun r w' => ∃ A c, r = .returned (.slice A sp.length c) ∧ PaS w' (fun k => W.heap.size ≤ k) A c sp ∧ Below w6.heap.size w6 w') := qh fun hrd he W hb => (HO.out.all _ p F9 _ b9 W (HR6.out.next HK.out hb).st).mono fun _ _ ⟨A, c, e, h1, h2⟩ => by
      have hs : q1q b9.st.K [] [] b9.st.time = sp := by
       rw [← HSp.out, HT.out, ht', he]
       exact q8V (HK.out.okay HR6.out.st).2.1.sort HOk.out.ok.sort (hrd he)
      rw [hs] at e h1
      exact ⟨A, c, e, h1, hb.trans (h2.mono hb.size)⟩
     rw [HT.out, ht'] at HTu
     have HTt : Hid (t' ≤ j + 1) := qh (by rcases HTm.out with ⟨_, _, _, _, h, _⟩ | ⟨_, _, h, _⟩ <;> (have := HTj.out; have := HT.out; omega))
     rcases HTm.out with ⟨k0, k1, k2, k3, k4, k5⟩ | ⟨kn, k2, k3, k4⟩
     ·have e1 : (what == 4) = true := by rw [k0]; rfl
      have e2 : (td.e == 0) = true := by rw [k1]; rfl
      have k2' : n' = n + 1 := by rw [← hn', k2, HHn.out]
      have k3' : td.n = t' := by rw [k3, ht']
      have k4' : t' ≤ t + 1 := by rw [← ht', ← HT.out]; exact k4
      have HRd : Hid (t' = t → ∀ k, q0E b9.st.K k t = q0E st.st.K k t) := qh fun e => by rw [← HT.out]; exact k5 (by rw [ht', HT.out]; exact e)
      have HTe : Hid (td.n = t') := qh k3'
      have hcell : ∀ W, Below w6.heap.size w6 W → W.cell? ⟨w5.heap.size, 0, none⟩ = some (.int .u64 (t' : Nat)) ∧ W.cell? ⟨w5.heap.size, 1, none⟩ = some (.int .i64 td.e) := fun W h => by
       obtain ⟨v0, v1, _⟩ := qcJ (q01 HX6.out h (q00 HX6.out))
       rw [k3'] at v0
       exact ⟨v0, v1⟩
      obtain ⟨S, hS1, hS2⟩ : ∃ S : World → Prop, (∀ W : World, Below w6.heap.size w6 W → S W) ∧ ∀ W : World, S W → W.cell? ⟨w5.heap.size, 0, none⟩ = some (.int .u64 (t' : Nat)) ∧ W.cell? ⟨w5.heap.size, 1, none⟩ = some (.int .i64 td.e) := ⟨fun W => Below w6.heap.size w6 W, fun _ h => h, hcell⟩
      have HKp := qh hS1
      have HRdc := qh hS2
      rw [k2'] at HHi
      have hn1 : (n : Int) + 1 ≤ 1000 := by
       have h1 := qey HR6.out.ok HR6.out.wgt
       have := HJ8.out
       omega
      have hwr : IntKind.i64.wrap ((n : Int) + 1) = (n : Int) + 1 := IntWalk.i64_in _ ⟨by omega, by omega⟩
      have hwr2 : IntKind.u64.wrap ((t : Int) + 1) = (t : Int) + 1 := IntWalk.u64_in _ ⟨by omega, by have := HTj.out; have := HJ8.out; omega⟩
      have d1 : decide ((t : Int) + 1 < (t' : Int)) = false := by rw [decide_eq_false_iff_not]; omega
      have HTu2 := qh HTu.out
      clear k0 k1 k2 k3 k4 k5 k2' k3' hn' ht' hcell hS1 hS2 hn1
      go_wp2_with fail
      refine wp_region_held_drew (S := S) (by kernel_rfl) ?_ (fun hGd => ?_)
      ·exact HKp.out _ (Below.refl _ _).drew
      refine tkS (i := 0) (v := ?_) ?_
      (try simp only [Act.put, qA, qB, qC])
      refine tkS (i := 3) (v := ?_) ?_
      (try simp only [Act.put, qA, qB, qC])
      refine tkS (i := 4) (v := ?_) ?_
      (try simp only [Act.put, qA, qB, qC])
      refine stH (i := 1) (fun K' hK => ?_)
      go_simp
      go_at_call 31; refine (HHi.out _ (Below.refl _ _).drew).mono ?_; rintro r w8 ⟨A8, c8, rfl, hb8⟩; have HB8 := qh hb8; clear hb8
      (first | (refine hK.out _ _ ?_ (fun hG2 => ?_)) | (go_wp2_with fail; refine hK.out _ _ ?_ (fun hG2 => ?_)))
      ·exact HKp.out _ HB8.out
      clear hK K' hGd
      have hGd := hG2
      clear hG2
      (try simp only [Act.put, qA, qB, qC])
      refine tkS (i := 2) (v := ?_) ?_
      (try simp only [Act.put, qA, qB, qC])
      refine tkS (i := 5) (v := ?_) ?_
      (try simp only [Act.put, qA, qB, qC])
      refine tkS (i := 6) (v := ?_) ?_
      (try simp only [Act.put, qA, qB, qC])
      refine tkS (i := 7) (v := ?_) ?_
      (try simp only [Act.put, qA, qB, qC])
      refine tkH (i := 8) (v := ?_) (fun w hSw => ?_) ?_
      rotate_left
      ·obtain ⟨z0, z1⟩ := HRdc.out _ hSw; go_simp <;> with_reducible rfl
      (try simp only [Act.put, qA, qB, qC])
      refine tkS (i := 9) (v := ?_) ?_
      (try simp only [Act.put, qA, qB, qC])
      refine stH (i := 10) (fun K' hK => ?_)
      go_simp
      go_at_call 20; refine (HNw.out _ HB8.out).mono ?_; rintro r w9 ⟨rfl, hb9⟩; have HB9 := qh hb9; clear hb9
      (first | (refine hK.out _ _ ?_ (fun hG2 => ?_)) | (go_wp2_with fail; refine hK.out _ _ ?_ (fun hG2 => ?_)))
      ·exact HKp.out _ HB9.out
      clear hK K' hGd
      have hGd := hG2
      clear hG2
      (try simp only [Act.put, qA, qB, qC])
      refine tkS (i := 11) (v := ?_) ?_
      (try simp only [Act.put, qA, qB, qC])
      refine tkS (i := 12) (v := ?_) ?_
      (try simp only [Act.put, qA, qB, qC])
      refine tkS (i := 13) (v := ?_) ?_
      (try simp only [Act.put, qA, qB, qC])
      refine tkS (i := 14) (v := ?_) ?_
      (try simp only [Act.put, qA, qB, qC])
      refine tkS (i := 16) (v := ?_) ?_
      (try simp only [Act.put, qA, qB, qC])
      refine tkS (i := 17) (v := ?_) ?_
      (try simp only [Act.put, qA, qB, qC])
      refine stH (i := 15) (fun K' hK => ?_)
      go_simp
      go_at_call 20; refine (HNw.out _ HB9.out).mono ?_; rintro r w10 ⟨rfl, hb10⟩; have HB10 := qh hb10; clear hb10
      (first | (refine hK.out _ _ ?_ (fun hG2 => ?_)) | (go_wp2_with fail; refine hK.out _ _ ?_ (fun hG2 => ?_)))
      ·exact HKp.out _ HB10.out
      clear hK K' hGd
      have hGd := hG2
      clear hG2
      (try simp only [Act.put, qA, qB, qC])
      refine tkS (i := 18) (v := ?_) ?_
      (try simp only [Act.put, qA, qB, qC])
      refine tkS (i := 19) (v := ?_) ?_
      (try simp only [Act.put, qA, qB, qC])
      refine wpAnyH_done (by kernel_rfl) ?_ _
      by_cases htt : t < t'
      ·have e3 : decide ((t : Int) < (t' : Int)) = true := by rw [decide_eq_true_iff]; omega
       have e4 : decide (t < t') = true := by rw [decide_eq_true_iff]; omega
       go_wp2_with fail
       refine (HNw.out _ HB10.out).mono ?_
       rintro r w11 ⟨rfl, hb11⟩
       have HN11 := qh (HR6.out.next HK.out hb11)
       clear hb11
       go_wp2_with fail
       go_roundg (gk - 1)
       case measure => have := HJ.out; omega
       case rel => exact ⟨j + 1, b9, F9, by have := HJ.out; omega, by go_num, by have := HTt.out; have := HT'.out; omega, HN11.out⟩
      ·have HEq : Hid (t' = t) := qh (by have := HTu2.out; omega)
       have e3 : decide ((t : Int) < (t' : Int)) = false := by rw [decide_eq_false_iff_not]; omega
       have e4 : decide (t < t') = false := by rw [decide_eq_false_iff_not]; omega
       have e5 : ((t' : Int) == (t : Int)) = true := by rw [beq_iff_eq]; have := HEq.out; omega
       go_wp2_with fail
       refine (HNw.out _ HB10.out).mono ?_
       rintro r w10b ⟨rfl, hb10b⟩
       have HBX := qh hb10b
       clear hb10b
       go_wp2_with fail
       refine (HNw.out _ HBX.out).mono ?_
       rintro r w11 ⟨rfl, hb11⟩
       have HB11 := qh hb11
       clear hb11
       have HA := qh (HAl.out HRd.out HEq.out w11 HB11.out)
       go_wp2_with fail
       refine HA.out.mono ?_
       rintro r w12 ⟨A12, c12, rfl, hp12, hb12⟩
       have hp5 : PaS w12 (fun _ => True) A2 c2 sp := HP5.out.keep fun g _ hlt => ⟨(hb12.block g (Nat.lt_of_lt_of_le hlt HB6.out.size)).trans (HB6.out.block g hlt), trivial⟩
       have hspl : sp.length ≤ 9223372036854775807 := by have := hp12.1; have := hp12.2.1; unfold maxLen at *; omega
       have hSm := q3i sp sp A12 A2 c12 c2 _ _ _ _ w12 hspl hspl hp12.ch.2.2.2 hp5.ch.2.2.2
       rw [show q4Z sp sp = true from by unfold q4Z; simp] at hSm
       have HSm := qh hSm
       have HB12 := qh hb12
       clear hSm hp12 hp5 hspl hb12 HA
       go_wp2_with fail
       refine HSm.out.mono ?_
       rintro r w13 ⟨rfl, hb13⟩
       have HN13 := qh (HR6.out.next HK.out (HB12.out.trans (hb13.mono HB12.out.size)))
       clear hb13 HSm
       go_wp2_with fail
       go_roundg (gk - 1)
       case measure => have := HJ.out; omega
       case rel => exact ⟨j + 1, b9, F9, by have := HJ.out; omega, by go_num, by have := HTt.out; have := HT'.out; omega, HN13.out⟩
       ·exfalso
        have := HEq.out
        omega
     ·have HEq : Hid (t' = t) := qh (by rw [← ht', k3, HT.out])
      have HRd : Hid (t' = t → ∀ k, q0E b9.st.K k t = q0E st.st.K k t) := qh fun _ => by rw [← HT.out]; exact k4
      have k2' : n' = n := by rw [← hn', k2, HHn.out]
      rw [k2'] at HHi
      have e5 : ((t' : Int) == (t : Int)) = true := by rw [beq_iff_eq]; have := HEq.out; omega
      have e6 : ((n : Int) == (n : Int)) = true := beq_self_eq_true _
      by_cases k0 : what = 4
      ·have e1 : (what == 4) = true := by rw [k0]; rfl
       have e2 : (td.e == 0) = false := by
        rw [beq_eq_false_iff_ne]
        exact fun e => kn ⟨k0, e⟩
       clear k2 k3 k4 kn k0 k2' hn' ht'
       go_wp2_with fail
       refine (HHi.out _ (Below.refl _ _)).mono ?_
       rintro r w10 ⟨A10, c10, rfl, hb10⟩
       have HBX := qh hb10
       clear hb10
       go_wp2_with fail
       refine (HNw.out _ HBX.out).mono ?_
       rintro r w11 ⟨rfl, hb11⟩
       have HB11 := qh hb11
       clear hb11
       have HA := qh (HAl.out HRd.out HEq.out w11 HB11.out)
       go_wp2_with fail
       refine HA.out.mono ?_
       rintro r w12 ⟨A12, c12, rfl, hp12, hb12⟩
       have hp5 : PaS w12 (fun _ => True) A2 c2 sp := HP5.out.keep fun g _ hlt => ⟨(hb12.block g (Nat.lt_of_lt_of_le hlt HB6.out.size)).trans (HB6.out.block g hlt), trivial⟩
       have hspl : sp.length ≤ 9223372036854775807 := by have := hp12.1; have := hp12.2.1; unfold maxLen at *; omega
       have hSm := q3i sp sp A12 A2 c12 c2 _ _ _ _ w12 hspl hspl hp12.ch.2.2.2 hp5.ch.2.2.2
       rw [show q4Z sp sp = true from by unfold q4Z; simp] at hSm
       have HSm := qh hSm
       have HB12 := qh hb12
       clear hSm hp12 hp5 hspl hb12 HA
       go_wp2_with fail
       refine HSm.out.mono ?_
       rintro r w13 ⟨rfl, hb13⟩
       have HN13 := qh (HR6.out.next HK.out (HB12.out.trans (hb13.mono HB12.out.size)))
       clear hb13 HSm
       go_wp2_with fail
       go_roundg (gk - 1)
       case measure => have := HJ.out; omega
       case rel => exact ⟨j + 1, b9, F9, by have := HJ.out; omega, by go_num, by have := HTt.out; have := HT'.out; omega, HN13.out⟩
       ·exfalso
        have := HEq.out
        omega
      ·have e1 : (what == 4) = false := by
        rw [beq_eq_false_iff_ne]
        exact k0
       clear k2 k3 k4 kn k0 k2' hn' ht'
       go_wp2_with fail
       refine (HHi.out _ (Below.refl _ _)).mono ?_
       rintro r w10 ⟨A10, c10, rfl, hb10⟩
       have HBX := qh hb10
       clear hb10
       go_wp2_with fail
       refine (HNw.out _ HBX.out).mono ?_
       rintro r w11 ⟨rfl, hb11⟩
       have HB11 := qh hb11
       clear hb11
       have HA := qh (HAl.out HRd.out HEq.out w11 HB11.out)
       go_wp2_with fail
       refine HA.out.mono ?_
       rintro r w12 ⟨A12, c12, rfl, hp12, hb12⟩
       have hp5 : PaS w12 (fun _ => True) A2 c2 sp := HP5.out.keep fun g _ hlt => ⟨(hb12.block g (Nat.lt_of_lt_of_le hlt HB6.out.size)).trans (HB6.out.block g hlt), trivial⟩
       have hspl : sp.length ≤ 9223372036854775807 := by have := hp12.1; have := hp12.2.1; unfold maxLen at *; omega
       have hSm := q3i sp sp A12 A2 c12 c2 _ _ _ _ w12 hspl hspl hp12.ch.2.2.2 hp5.ch.2.2.2
       rw [show q4Z sp sp = true from by unfold q4Z; simp] at hSm
       have HSm := qh hSm
       have HB12 := qh hb12
       clear hSm hp12 hp5 hspl hb12 HA
       go_wp2_with fail
       refine HSm.out.mono ?_
       rintro r w13 ⟨rfl, hb13⟩
       have HN13 := qh (HR6.out.next HK.out (HB12.out.trans (hb13.mono HB12.out.size)))
       clear hb13 HSm
       go_wp2_with fail
       go_roundg (gk - 1)
       case measure => have := HJ.out; omega
       case rel => exact ⟨j + 1, b9, F9, by have := HJ.out; omega, by go_num, by have := HTt.out; have := HT'.out; omega, HN13.out⟩
       ·exfalso
        have := HEq.out
        omega
    ·have hlt : decide ((j : Int) < (a.length : Int)) = false := by simpa using hj
     have HB := qh (HB0.out.trans (HN.out.bel.mono HB0.out.size))
     go_wp2_with fail
     go_ret
     exact ⟨rfl, HB.out⟩
  ·have HMd : Hid (∀ wx, Below w0.heap.size w0 wx → Calls Tryz.prog 35 #[.agg #[.int .i64 keys, .int .i64 vers, .int .i64 byts, .int .i64 marks, .int .i64 recs, .int .i64 live, .int .u64 last]] wx fun r w' => r = .returned (.pointer none) ∧ Below w0.heap.size w0 w') := qh fun wx hb =>
    (q6d K ⟨⟨keys, vers, byts, last⟩, marks, recs, live⟩ w0.heap.size wx hb.size h1 h2 h3 h4 h5 h6 h7).mono fun r W' ⟨h1, h2⟩ => by
     rw [if_neg hm] at h2
     exact ⟨h2, hb.trans (h1.mono hb.size)⟩
   have HMay : Hid (∀ wx, Below w0.heap.size w0 wx → Calls Tryz.prog 15 #[.agg #[.int .i64 keys, .int .i64 vers, .int .i64 byts, .int .i64 marks, .int .i64 recs, .int .i64 live, .int .u64 last]] wx fun r w' => r = .returned (.bool false) ∧ Below w0.heap.size w0 w') := qh fun wx hb =>
    (qeI ⟨⟨keys, vers, byts, last⟩, marks, recs, live⟩ wx).mono fun _ _ q => by
     rw [show MayT ⟨⟨keys, vers, byts, last⟩, marks, recs, live⟩ = false by simpa using hm] at q
     exact ⟨q.1, hb.trans (q.2.mono hb.size)⟩
   clear K O ha ha0 fa fla fwa hm h1 h2 h3 h4 h5 h6 h7
   go_enter Tryz.func7, Tryz.ntmps7
   go_upto_region 1 with fail
   rw [HW0.out]
   clear HW0
   go_wp2_with (first
    | (go_at_call 12; (with_reducible refine (HL.out _ (by assumption)).mono ?_); rintro r w' ⟨rfl, hb6⟩)
    | (go_at_call 13; (with_reducible refine (HFA.out _ (by assumption)).mono ?_); rintro r w' ⟨rfl, hb6⟩; obtain ⟨z0, z1, z2, z3, z4, z5, z6⟩ := HLim.out _ hb6)
    | (go_at_call 35; (with_reducible refine (HMd.out _ (by assumption)).mono ?_); rintro r w' ⟨rfl, hb6⟩; obtain ⟨z0, z1, z2, z3, z4, z5, z6⟩ := HLim.out _ hb6)
    | (go_at_call 15; (with_reducible refine (HMay.out _ (by assumption)).mono ?_); rintro r w' ⟨rfl, hb6⟩))
   go_ret
   exact ⟨rfl, HB0.out.trans (hb6.mono HB0.out.size)⟩
 ·rw [show fewT a = false by simpa using fa] at HFA
  clear K O ha ha0 fa h1 h2 h3 h4 h5 h6 h7
  go_enter Tryz.func7, Tryz.ntmps7
  go_upto_region 1 with fail
  rw [HW0.out]
  clear HW0
  go_wp2_with (first
   | (go_at_call 12; (with_reducible refine (HL.out _ (by assumption)).mono ?_); rintro r w' ⟨rfl, hb6⟩)
   | (go_at_call 13; (with_reducible refine (HFA.out _ (by assumption)).mono ?_); rintro r w' ⟨rfl, hb6⟩; obtain ⟨z0, z1, z2, z3, z4, z5, z6⟩ := HLim.out _ hb6))
  go_ret
  exact ⟨rfl, HB0.out.trans (hb6.mono HB0.out.size)⟩
end txnNoEffect
end Go.Proofs.YtdpbllacfljmoaaGreat
