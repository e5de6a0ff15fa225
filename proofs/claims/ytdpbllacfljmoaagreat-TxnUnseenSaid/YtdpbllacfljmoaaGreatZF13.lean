import Derived.Test.YtdpbllacfljmoaaGreatZF11
import Derived.Test.YtdpbllacfljmoaaGreatZF12
import Derived.Deep.LoopGhost
import Derived.Deep.DeepCutAuto
import Derived.IntWalk
set_option maxRecDepth 100000
set_option maxHeartbeats 16000000
set_option linter.unusedVariables false
namespace Go.Proofs.YtdpbllacfljmoaaGreat
open Go.RowKit
theorem qbQ : q4T 0 q2Z q2Z := ⟨⟨ok_none, ok_none, rfl, Nat.zero_le _, rfl⟩, (fun t h => by cases h), rfl⟩
theorem qcc (l : List RecS) : q9e l l = true := decide_eq_true rfl
theorem qce (t : q2X) : qe8 t t = true := (qfr t t).2 rfl
theorem qcb (l : List (KeyS × List UInt8)) : q5a l l = true := by unfold q5a; simp
namespace txnUnseen
theorem walk {St : q2w} (K : TxnC St) (O : TxnO St) (L : LimT) (a : List OpT) (A : Option Addr) (c : Nat) (w : World) (ha : ChOT w w.heap.size A c a) (h1 : I64 L.s.keys) (h2 : I64 L.s.vers) (h3 : I64 L.s.byts) (h4 : L.s.last < 18446744073709551616) (h5 : I64 L.marks) (h6 : I64 L.recs) (h7 : I64 L.live) :
  Calls Tryz.prog 8 #[limT L, .slice A a.length c] w fun r w' => r = .returned (.bool true) ∧ Below w.heap.size w w' := by
 obtain ⟨⟨keys, vers, byts, last⟩, marks, recs, live⟩ := L
 simp only at h1 h2 h3 h4 h5 h6 h7
 obtain ⟨w0, hw0⟩ : ∃ y, w.alloc (.cells #[.int .i64 keys, .int .i64 vers, .int .i64 byts, .int .i64 marks, .int .i64 recs, .int .i64 live, .int .u64 last] 24) = y := ⟨_, rfl⟩
 have b0 : Below w.heap.size w w0 := by rw [← hw0]; exact (Below.refl _ w).alloc (Nat.le_refl _) _
 have x0 : w0.heap[w.heap.size]? = some (.cells #[.int .i64 keys, .int .i64 vers, .int .i64 byts, .int .i64 marks, .int .i64 recs, .int .i64 live, .int .u64 last] 24 (0, 0)) := by rw [← hw0]; exact heap_alloc_new w _
 have HLim := qh (fun (W : World) (h : Below w0.heap.size w0 W) => q4u (q01 x0 h (q00 x0)))
 have ha0 : ChOT w0 w.heap.size A c a := ha.below b0 (Nat.le_refl _) (Nat.le_refl _)
 have HL := qh (qbV K w0)
 have HFA := qh (qd2 (ha.below b0 (Nat.le_refl _) b0.size))
 have hb6 := Below.refl w0.heap.size w0
 have HB0 := qh b0
 have HZ0 := qh b0.size
 have HW0 := qh hw0
 clear b0 x0 hw0
 unfold limT q3B
 simp only
 by_cases fa : fewT a = true
 ·rw [fa] at HFA
  obtain ⟨fwa, fla⟩ := qeY fa
  have HRA := qh ha0.2.2.2
  have HWA := qh fwa
  have HK := qh K
  have HO := qh O
  have HFlA := qh fla
  have hal : a.length ≤ 9223372036854775807 := by omega
  by_cases hm : MayT ⟨⟨keys, vers, byts, last⟩, marks, recs, live⟩ = true
  ·have HMd : Hid (∀ wx, Below w0.heap.size w0 wx → Calls Tryz.prog 35 #[.agg #[.int .i64 keys, .int .i64 vers, .int .i64 byts, .int .i64 marks, .int .i64 recs, .int .i64 live, .int .u64 last]] wx fun r w' => ∃ p F, r = .returned (ptrS p) ∧ RunT St w0 w' p F ⟨⟨keys, vers, byts, last⟩, marks, recs, live⟩ q2Z 0 ∧ Below wx.heap.size wx w' ∧ ∀ g, F g → wx.heap.size ≤ g) := qh fun wx hb =>
    (q6q K ⟨⟨keys, vers, byts, last⟩, marks, recs, live⟩ w0.heap.size wx hb.size h1 h2 h3 h4 h5 h6 h7).mono fun r W' ⟨h1, h2⟩ => by
     rw [if_pos hm] at h2
     obtain ⟨p, F, e, h3, h4⟩ := h2
     exact ⟨p, F, e, RunT.of K h3 (hb.trans (h1.mono hb.size)), h1, h4⟩
   clear ha ha0 fa fla fwa hm h1 h2 h3 h4 h5 h6 h7 K O
   go_enter Tryz.func8, Tryz.ntmps8
   go_upto_region 1 with fail
   rw [HW0.out]
   clear HW0
   go_wp2_with (first
    | (go_at_call 12; (with_reducible refine (HL.out _ (by assumption)).mono ?_); rintro r w' ⟨rfl, hb6⟩)
    | (go_at_call 13; (with_reducible refine (HFA.out _ (by assumption)).mono ?_); rintro r w' ⟨rfl, hb6⟩; obtain ⟨z0, z1, z2, z3, z4, z5, z6⟩ := HLim.out _ hb6))
   obtain ⟨S, hS1, hS2⟩ : ∃ S : World → Prop, (∀ W : World, Below w0.heap.size w0 W → S W) ∧ ∀ W : World, S W → W.cell? ⟨w.heap.size, 0, none⟩ = some (.int .i64 keys) ∧ W.cell? ⟨w.heap.size, 1, none⟩ = some (.int .i64 vers) ∧ W.cell? ⟨w.heap.size, 2, none⟩ = some (.int .i64 byts) ∧ W.cell? ⟨w.heap.size, 3, none⟩ = some (.int .i64 marks) ∧ W.cell? ⟨w.heap.size, 4, none⟩ = some (.int .i64 recs) ∧ W.cell? ⟨w.heap.size, 5, none⟩ = some (.int .i64 live) ∧ W.cell? ⟨w.heap.size, 6, none⟩ = some (.int .u64 last) :=
    ⟨fun W => Below w0.heap.size w0 W, fun _ h => h, fun W h => HLim.out W h⟩
   have HKp := qh hS1
   have HRdc := qh hS2
   clear hS1 hS2
   refine wp_region_held_drew (S := S) (by kernel_rfl) ?_ (fun hGd => ?_)
   ·exact HKp.out _ hb6.drew
   refine tkH (i := 0) (v := ?_) (fun w hSw => ?_) ?_
   rotate_left
   ·obtain ⟨z0, z1, z2, z3, z4, z5, z6⟩ := HRdc.out _ hSw; go_simp <;> with_reducible rfl
   (try simp only [Act.put, qA, qB, qC])
   refine tkH (i := 2) (v := ?_) (fun w hSw => ?_) ?_
   rotate_left
   ·obtain ⟨z0, z1, z2, z3, z4, z5, z6⟩ := HRdc.out _ hSw; go_simp <;> with_reducible rfl
   (try simp only [Act.put, qA, qB, qC])
   refine stH (i := 1) (fun K' hK => ?_)
   go_simp
   go_at_call 35; refine (HMd.out _ hb6.drew).mono ?_; rintro r w5 ⟨p, F, rfl, hn, hbm, hlo⟩; have HN5 := qh hn; clear hn hbm hlo; unfold ptrS
   (first | (refine hK.out _ _ ?_ (fun hG2 => ?_)) | (go_wp2_with fail; refine hK.out _ _ ?_ (fun hG2 => ?_)))
   ·exact HKp.out _ HN5.out.bel
   clear hK K' hGd
   have hGd := hG2
   clear hG2
   (try simp only [Act.put, qA, qB, qC])
   refine stH (i := 3) (fun K' hK => ?_)
   go_simp
   go_at_call 35; refine (HMd.out _ HN5.out.bel).mono ?_; rintro r w6 ⟨p2, G, rfl, hn, hbm, hlo⟩; have HN6 := qh hn; have HN5b := qh (HN5.out.next HK.out hbm); have HDj : Hid (∀ g, F g → ¬ G g) := qh (fun g h1 h2 => by have := (HK.out.upto HN5.out.st g h1).2; have := hlo g h2; omega); clear hn hbm hlo; unfold ptrS
   (first | (refine hK.out _ _ ?_ (fun hG2 => ?_)) | (go_wp2_with fail; refine hK.out _ _ ?_ (fun hG2 => ?_)))
   ·exact HKp.out _ HN6.out.bel
   clear hK K' hGd
   have hGd := hG2
   clear hG2
   (try simp only [Act.put, qA, qB, qC])
   refine tkS (i := 4) (v := ?_) ?_
   (try simp only [Act.put, qA, qB, qC])
   refine tkS (i := 5) (v := ?_) ?_
   (try simp only [Act.put, qA, qB, qC])
   refine wpAnyH_done (by kernel_rfl) ?_ _
   clear HKp HRdc hGd S
   clear hb6 HL HFA HMd
   go_wp2_with fail
   go_loopg [33] a.length (fun q i wr => ∃ (j kb kc low : Nat) (b c : q08) (F G : Nat → Prop), j + q = a.length ∧ i = .int .i64 j ∧ kb ≤ j ∧ kc ≤ j ∧ RunT St w0 wr p F ⟨⟨keys, vers, byts, last⟩, marks, recs, live⟩ b kb ∧ RunT St w0 wr p2 G ⟨⟨keys, vers, byts, last⟩, marks, recs, live⟩ c kc ∧ (∀ g, F g → ¬ G g) ∧ q4T low b c)
   case atStart => exact ⟨0, 0, 0, 0, q2Z, q2Z, F, G, by omega, rfl, Nat.le_refl _, Nat.le_refl _, HN5b.out, HN6.out, HDj.out, qbQ⟩
   case round =>
    obtain ⟨j, kb, kc, low, sb, sc, FB, GC, hk, rfl, hkb, hkc, hnb, hnc, hdj, hlk⟩ := hrel
    have HJ := qh hk
    have HNB := qh hnb
    have HNC := qh hnc
    have HDJ := qh hdj
    have HLk := qh hlk
    have HKb := qh (And.intro hkb hkc)
    clear hk hnb hnc hdj hlk hkb hkc
    by_cases hj : j < a.length
    ·have hlt : decide ((j : Int) < (a.length : Int)) = true := by simpa using hj
     have hlt2 : decide (j < a.length) = true := by simpa using hj
     have HJ8 : Hid (j < 80) := qh (by have := HFlA.out; omega)
     obtain ⟨b0, o0, rfl, _, x, hx, hok, c0, c1, c2, c3, c4, c5⟩ := (HRA.out.below HNB.out.bel HZ0.out (Nat.le_refl _)).at_ hj
     have hw := HWA.out _ (List.getElem_mem hj)
     rw [← hx] at hw
     clear hx
     obtain ⟨⟨what, id, ⟨wk, wg, wd⟩, hi⟩, A', c'⟩ := x
     simp only at c0 c1 c2 c3 c4 c5 hw
     have hba := (Below.refl _ wr).alloc (Nat.le_refl _) (.cells #[.int .i64 what, .int .i64 id, .string (bs wk), .bool wg, .slice A' wd.length c', .string (bs hi)] 39)
     have hx1 := heap_alloc_new wr (.cells #[.int .i64 what, .int .i64 id, .string (bs wk), .bool wg, .slice A' wd.length c', .string (bs hi)] 39)
     obtain ⟨w1, hw1⟩ : ∃ y, wr.alloc (.cells #[.int .i64 what, .int .i64 id, .string (bs wk), .bool wg, .slice A' wd.length c', .string (bs hi)] 39) = y := ⟨_, rfl⟩
     have HW1 := qh hw1
     rw [hw1] at hba hx1
     have HX1 := qh hx1
     have hn1 := HNB.out.next HK.out hba
     have HC1 := qh (HNC.out.next HK.out hba)
     have hok1 := hok.below hba (Nat.le_trans HZ0.out HNB.out.bel.size) HZ0.out
     have HDo := qh (qaM HK.out hn1 (by have := HJ8.out; have := HKb.out; omega) ⟨what, id, ⟨wk, wg, wd⟩, hi⟩ A' c' hw.1 hw.2 hok1)
     have HDc : Hid (∀ W, RunT St w0 W p2 GC ⟨⟨keys, vers, byts, last⟩, marks, recs, live⟩ sc kc → Below w1.heap.size w1 W ∨ (∀ g, g < w0.heap.size → W.heap[g]? = w1.heap[g]?) → Calls Tryz.prog 18 #[.pointer (some ⟨p2, 0, none⟩), .agg #[.int .i64 what, .int .i64 id, .string (bs wk), .bool wg, .slice A' wd.length c', .string (bs hi)]] W (DidT St w0 W p2 GC ⟨⟨keys, vers, byts, last⟩, marks, recs, live⟩ sc kc ⟨what, id, ⟨wk, wg, wd⟩, hi⟩)) := qh fun W hn hb => qaM HK.out hn (by have := HJ8.out; have := HKb.out; omega) ⟨what, id, ⟨wk, wg, wd⟩, hi⟩ A' c' hw.1 hw.2 (by
      have hs := hn1.bel.size
      refine ⟨hok1.1, hok1.2.1, hok1.2.2.1, hok1.2.2.2.1, hok1.2.2.2.2.keep fun g _ hg => ?_⟩
      rcases hb with hb | hb
      ·exact hb.block g (by omega)
      ·exact hb g hg)
     have HUb := qh (HK.out.upto hn1.st)
     have HUc := qh (HK.out.upto HC1.out.st)
     have HLw : Hid (wr.heap.size < w1.heap.size) := qh (q00 hx1)
     clear hba hx1 hw1 hok hok1 hw hn1
     unfold qfh ptrS at HDo
     go_upto_region 9 with fail
     rw [HW1.out]
     clear HW1 c0 c1 c2 c3 c4 c5
     obtain ⟨y0, y1, y2, y3, y4, y5⟩ := q0O HX1.out
     go_wp2_with fail
     refine HDo.out.mono ?_
     rintro r w5b ⟨A9, B9, c9, d9, FB9, rfl, htold, hr9, hm9, hf9⟩
     have hfresh : ∀ g, GC g → ¬ FB g := fun g h1 h2 => HDJ.out g h2 h1
     have HC5 := qh (HC1.out.aside HK.out hm9 fun g hg => ⟨(HUb.out g hg).1, HDJ.out g hg⟩)
     have HX5 : Hid (w5b.heap[wr.heap.size]? = _) := qh ((hm9.block _ HLw.out (fun hf => by have := (HK.out.upto HNB.out.st _ hf).2; omega)).trans HX1.out)
     have HDJ5 : Hid (∀ g, FB9 g → ¬ GC g) := qh fun g h1 h2 => by
      rcases hf9 g h1 with h | h
      ·exact HDJ.out g h h2
      ·have := (HUc.out g h2).2; omega
     have HO5 : Hid (∀ g, g < w0.heap.size → w5b.heap[g]? = w1.heap[g]?) := qh fun g hg => hm9.block g (by have := HNB.out.bel.size; have := HLw.out; omega) (fun hf => by have := (HUb.out g hf).1; omega)
     have hTd : ∀ g, ResT FB9 w0.heap.size w1 g → g < w5b.heap.size → ¬ GC g := fun g hg hlt h2 => by
      have h3 := HUc.out g h2
      rcases hg with h | h | h
      ·exact HDJ5.out g h h2
      ·omega
      ·omega
     have HTd := qh hTd
     have HTold := qh htold
     generalize hdo : q1g (FT ⟨⟨keys, vers, byts, last⟩, marks, recs, live⟩) ⟨⟨keys, vers, byts, last⟩, marks, recs, live⟩ sb ⟨what, id, ⟨wk, wg, wd⟩, hi⟩ = dd at *
     have HDd := qh hdo
     obtain ⟨b9, td⟩ := dd
     simp only at hr9 HTold
     have HR5 := qh hr9
     clear hr9 hm9 hf9 hfresh hTd htold hdo HDo y0 y1 y2 y3 y4 y5
     have hba6 := (Below.refl _ w5b).alloc (Nat.le_refl _) (.cells #[.int .u64 td.n, .int .i64 td.e, .slice A9 td.b.length c9, .bool td.is, .slice B9 td.scan.length d9] 43)
     have hx6 := heap_alloc_new w5b (.cells #[.int .u64 td.n, .int .i64 td.e, .slice A9 td.b.length c9, .bool td.is, .slice B9 td.scan.length d9] 43)
     obtain ⟨w6b, hw6⟩ : ∃ y, w5b.alloc (.cells #[.int .u64 td.n, .int .i64 td.e, .slice A9 td.b.length c9, .bool td.is, .slice B9 td.scan.length d9] 43) = y := ⟨_, rfl⟩
     have HW6 := qh hw6
     rw [hw6] at hba6 hx6
     have HX56 := qh (q01 HX5.out hba6 (q00 HX5.out))
     have HX6 := qh hx6
     have HR6 := qh (HR5.out.next HK.out hba6)
     have HC6 := qh (HC5.out.next HK.out hba6)
     have HO6 : Hid (∀ g, g < w0.heap.size → w6b.heap[g]? = w1.heap[g]?) := qh fun g hg => (hba6.block g (by have := HR5.out.bel.size; omega)).trans (HO5.out g hg)
     have HT6 : Hid (q6P w6b (fun g => ResT FB9 w0.heap.size w1 g ∧ g < w5b.heap.size) td A9 c9 B9 d9) := qh (HTold.out.keep fun g hg hlt => ⟨hba6.block g hlt, hg, hlt⟩)
     have HLx : Hid (w5b.heap.size < w6b.heap.size ∧ wr.heap.size < w5b.heap.size) := qh ⟨q00 hx6, q00 HX5.out⟩
     clear hba6 hx6 hw6
     unfold q1d
     go_upto_region 10 with fail
     rw [HW6.out]
     clear HW6
     obtain ⟨u0, u1, u2, u3, u4⟩ := qd9 HX6.out
     obtain ⟨y0, y1, y2, y3, y4, y5⟩ := q0O HX56.out
     by_cases k6 : what = 6
     ·have e1 : (what == 6) = true := by rw [k6]; rfl
      have hb9 : b9 = (q15 sb).1 := by
       have h := HDd.out
       rw [show q1g (FT ⟨⟨keys, vers, byts, last⟩, marks, recs, live⟩) ⟨⟨keys, vers, byts, last⟩, marks, recs, live⟩ sb ⟨what, id, ⟨wk, wg, wd⟩, hi⟩ = q15 sb from by unfold q1g; rw [k6]; rfl] at h
       rw [h]
      have HLk9 : Hid (q4T (lowT sb) b9 sc) := qh (by rw [hb9]; exact q8W HLk.out)
      clear hb9 k6
      go_wp2_with fail
      go_roundg (gk - 1)
      case measure => have := HJ.out; omega
      case rel => exact ⟨j + 1, kb + 1, kc, lowT sb, b9, sc, FB9, GC, by have := HJ.out; omega, by go_num, by have := HKb.out; omega, by have := HKb.out; omega, HR6.out, HC6.out, HDJ5.out, HLk9.out⟩
     ·have e1 : (what == 6) = false := by rw [beq_eq_false_iff_ne]; exact k6
      obtain ⟨hq1, low', hq2⟩ := qbS (F := FT ⟨⟨keys, vers, byts, last⟩, marks, recs, live⟩) (L := ⟨⟨keys, vers, byts, last⟩, marks, recs, live⟩) HLk.out ⟨what, id, ⟨wk, wg, wd⟩, hi⟩ k6
      rw [HDd.out] at hq1 hq2
      simp only at hq1 hq2
      have hCc := HDc.out w6b HC6.out (.inr HO6.out)
      have HUc6 := qh (HK.out.upto HC6.out.st)
      obtain ⟨dc, hdc⟩ : ∃ y, q1g (FT ⟨⟨keys, vers, byts, last⟩, marks, recs, live⟩) ⟨⟨keys, vers, byts, last⟩, marks, recs, live⟩ sc ⟨what, id, ⟨wk, wg, wd⟩, hi⟩ = y := ⟨_, rfl⟩
      obtain ⟨c9b, tc⟩ := dc
      rw [hdc] at hq1 hq2
      simp only at hq1 hq2
      have HCc : Hid (Calls Tryz.prog 18 #[.pointer (some ⟨p2, 0, none⟩), .agg #[.int .i64 what, .int .i64 id, .string (bs wk), .bool wg, .slice A' wd.length c', .string (bs hi)]] w6b.drew fun r w' => ∃ (A B : Option Addr) (c d : Nat) (F' : Nat → Prop), r = .returned (q1d td A c B d) ∧ q6P w' (ResT F' w0.heap.size w6b) td A c B d ∧ RunT St w0 w' p2 F' ⟨⟨keys, vers, byts, last⟩, marks, recs, live⟩ c9b (kc + 1) ∧ Mut GC w6b w' ∧ ∀ g, F' g → GC g ∨ w6b.heap.size ≤ g) := qh (by
       have h := HDc.out w6b.drew (HC6.out.next HK.out (Below.refl _ _).drew) (.inr fun g hg => HO6.out g hg)
       refine h.mono fun r w' q => ?_
       unfold DidT at q
       rw [hdc, ← hq1] at q
       obtain ⟨A, B, c, d, F', h1, h2, h3, h4, h5⟩ := q
       exact ⟨A, B, c, d, F', h1, h2, h3, ⟨h4.os, h4.tape, h4.output, h4.size, h4.block⟩, h5⟩)
      have HLk9 := qh hq2
      clear hCc hq1 hq2 hdc
      obtain ⟨S, hS1, hS2⟩ : ∃ S : World → Prop, (∀ W : World, W.heap[w5b.heap.size]? = some (.cells #[.int .u64 td.n, .int .i64 td.e, .slice A9 td.b.length c9, .bool td.is, .slice B9 td.scan.length d9] 43 (0, 0)) → W.heap[wr.heap.size]? = some (.cells #[.int .i64 what, .int .i64 id, .string (bs wk), .bool wg, .slice A' wd.length c', .string (bs hi)] 39 (0, 0)) → S W) ∧ ∀ W : World, S W → W.cell? ⟨w5b.heap.size, 0, none⟩ = some (.int .u64 td.n) ∧ W.cell? ⟨w5b.heap.size, 1, none⟩ = some (.int .i64 td.e) ∧ W.cell? ⟨w5b.heap.size, 2, none⟩ = some (.slice A9 td.b.length c9) ∧ W.cell? ⟨w5b.heap.size, 3, none⟩ = some (.bool td.is) ∧ W.cell? ⟨w5b.heap.size, 4, none⟩ = some (.slice B9 td.scan.length d9) ∧
        W.cell? ⟨wr.heap.size, 0, none⟩ = some (.int .i64 what) ∧ W.cell? ⟨wr.heap.size, 1, none⟩ = some (.int .i64 id) ∧ W.cell? ⟨wr.heap.size, 2, none⟩ = some (.string (bs wk)) ∧ W.cell? ⟨wr.heap.size, 3, none⟩ = some (.bool wg) ∧ W.cell? ⟨wr.heap.size, 4, none⟩ = some (.slice A' wd.length c') ∧ W.cell? ⟨wr.heap.size, 5, none⟩ = some (.string (bs hi)) :=
       ⟨fun W => W.heap[w5b.heap.size]? = some (.cells #[.int .u64 td.n, .int .i64 td.e, .slice A9 td.b.length c9, .bool td.is, .slice B9 td.scan.length d9] 43 (0, 0)) ∧ W.heap[wr.heap.size]? = some (.cells #[.int .i64 what, .int .i64 id, .string (bs wk), .bool wg, .slice A' wd.length c', .string (bs hi)] 39 (0, 0)), fun _ h g => ⟨h, g⟩, fun W h => by
        obtain ⟨v0, v1, v2, v3, v4⟩ := qd9 h.1
        exact ⟨v0, v1, v2, v3, v4, q0O h.2⟩⟩
      have HKp := qh hS1
      have HRdc := qh hS2
      clear hS1 hS2
      go_wp2_with fail
      refine wp_region_held_drew (S := S) (by kernel_rfl) ?_ (fun hGd => ?_)
      ·exact HKp.out _ HX6.out HX56.out
      refine tkH (i := 0) (v := ?_) (fun w hSw => ?_) ?_
      rotate_left
      ·obtain ⟨v0, v1, v2, v3, v4, q0, q1, q2, q3, q4, q5⟩ := HRdc.out _ hSw; go_simp <;> with_reducible rfl
      (try simp only [Act.put, qA, qB, qC])
      refine tkS (i := 1) (v := ?_) ?_
      (try simp only [Act.put, qA, qB, qC])
      refine tkH (i := 2) (v := ?_) (fun w hSw => ?_) ?_
      rotate_left
      ·obtain ⟨v0, v1, v2, v3, v4, q0, q1, q2, q3, q4, q5⟩ := HRdc.out _ hSw; go_simp <;> with_reducible rfl
      (try simp only [Act.put, qA, qB, qC])
      refine stH (i := 3) (fun K' hK => ?_)
      go_simp
      go_at_call 18
      refine HCc.out.mono ?_
      rintro r w7 ⟨A7, B7, c7, d7, G7, rfl, ht7, hr7, hm7, hf7⟩
      have HT7 := qh ht7.in_
      have HC7 := qh hr7
      have HR7 := qh (HR6.out.aside HK.out hm7 fun g hg => ⟨(HUc6.out g hg).1, fun h => HDJ5.out g h hg⟩)
      have HT67 := qh (HT6.out.keep (T := fun _ => True) fun g hg hlt => ⟨hm7.block g hlt (HTd.out g hg.1 hg.2), trivial⟩).in_
      have HDJ7 : Hid (∀ g, FB9 g → ¬ G7 g) := qh fun g h1 h2 => by
       rcases hf7 g h2 with h | h
       ·exact HDJ5.out g h1 h
       ·have := (HK.out.upto HR6.out.st g h1).2; omega
      have HX7 : Hid (w7.heap[w5b.heap.size]? = some (.cells #[.int .u64 td.n, .int .i64 td.e, .slice A9 td.b.length c9, .bool td.is, .slice B9 td.scan.length d9] 43 (0, 0)) ∧ w7.heap[wr.heap.size]? = some (.cells #[.int .i64 what, .int .i64 id, .string (bs wk), .bool wg, .slice A' wd.length c', .string (bs hi)] 39 (0, 0))) := qh ⟨(hm7.block _ HLx.out.1 (fun h => by have := (HK.out.upto HC5.out.st _ h).2; omega)).trans HX6.out, (hm7.block _ (by have := HLx.out; omega) (fun h => by have := (HK.out.upto HNC.out.st _ h).2; omega)).trans HX56.out⟩
      have HKw : Hid (∀ W, Below w7.heap.size w7 W → S W) := qh fun W h => HKp.out W (q01 HX7.out.1 h (q00 HX7.out.1)) (q01 HX7.out.2 h (q00 HX7.out.2))
      clear ht7 hr7 hm7 hf7
      unfold q1d
      (first | (refine hK.out _ _ ?_ (fun hG2 => ?_)) | (go_wp2_with fail; refine hK.out _ _ ?_ (fun hG2 => ?_)))
      ·exact HKw.out _ (Below.refl _ _)
      clear hK K' hGd
      have hGd := hG2
      clear hG2
      (try simp only [Act.put, qA, qB, qC])
      refine stH (i := 4) (fun K' hK => ?_)
      go_simp
      go_at_call 17
      have HSm := qh (qe5 td td A9 B9 A7 B7 c9 d9 c7 d7 0 w7.heap.size 0 w7.heap.size w7 HT67.out HT7.out (Nat.le_refl _) (Nat.le_refl _))
      rw [qce] at HSm
      unfold q1d at HSm
      refine HSm.out.mono ?_
      rintro r w8 ⟨rfl, hb8⟩
      have HB8 := qh hb8
      clear hb8 HSm
      obtain ⟨lo, hlo⟩ : ∃ y, lowT b9 = y := ⟨_, rfl⟩
      obtain ⟨tm, htm⟩ : ∃ y, b9.st.time = y := ⟨_, rfl⟩
      have HLoB : Hid (∀ W, Below w7.heap.size w7 W → Calls Tryz.prog 21 #[.pointer (some ⟨p, 0, none⟩)] W fun r w' => r = .returned (.int .u64 lo) ∧ Below w7.heap.size w7 w') := qh fun W hb => (HK.out.low _ p FB9 _ b9 W (HR7.out.next HK.out hb).st ((HR7.out.next HK.out hb).few (by have := HJ8.out; have := HKb.out; omega))).mono fun _ _ q => ⟨by rw [← hlo]; exact q.1, hb.trans (q.2.mono hb.size)⟩
      have HLoC : Hid (∀ W, Below w7.heap.size w7 W → Calls Tryz.prog 21 #[.pointer (some ⟨p2, 0, none⟩)] W fun r w' => r = .returned (.int .u64 lo) ∧ Below w7.heap.size w7 w') := qh fun W hb => (HK.out.low _ p2 G7 _ c9b W (HC7.out.next HK.out hb).st ((HC7.out.next HK.out hb).few (by have := HJ8.out; have := HKb.out; omega))).mono fun _ _ q => ⟨by rw [← hlo, qdx HLk9.out.like.time (by rw [HLk9.out.eq])]; exact q.1, hb.trans (q.2.mono hb.size)⟩
      have HNwB : Hid (∀ W, Below w7.heap.size w7 W → Calls Tryz.prog 20 #[.pointer (some ⟨p, 0, none⟩)] W fun r w' => r = .returned (.int .u64 tm) ∧ Below w7.heap.size w7 w') := qh fun W hb => (HK.out.now _ p FB9 _ b9 W (HR7.out.next HK.out hb).st).mono fun _ _ q => ⟨by rw [← htm]; exact q.1, hb.trans (q.2.mono hb.size)⟩
      have HNwC : Hid (∀ W, Below w7.heap.size w7 W → Calls Tryz.prog 20 #[.pointer (some ⟨p2, 0, none⟩)] W fun r w' => r = .returned (.int .u64 tm) ∧ Below w7.heap.size w7 w') := qh fun W hb => (HK.out.now _ p2 G7 _ c9b W (HC7.out.next HK.out hb).st).mono fun _ _ q => ⟨by rw [← htm, HLk9.out.like.time]; exact q.1, hb.trans (q.2.mono hb.size)⟩
      have HReB : Hid (∀ W, Below w7.heap.size w7 W → Calls Tryz.prog 29 #[.pointer (some ⟨p, 0, none⟩)] W fun r w' => ∃ A c, r = .returned (.slice A b9.recs.length c) ∧ ChR w' w'.heap.size A c b9.recs ∧ Below w7.heap.size w7 w') := qh fun W hb => (HK.out.records _ p FB9 _ b9 W (HR7.out.next HK.out hb).st ((HR7.out.next HK.out hb).few (by have := HJ8.out; have := HKb.out; omega))).mono fun _ _ ⟨A, c, e, h1, h⟩ => ⟨A, c, e, h1.ch, hb.trans (h.mono hb.size)⟩
      have HReC : Hid (∀ W, Below w7.heap.size w7 W → Calls Tryz.prog 29 #[.pointer (some ⟨p2, 0, none⟩)] W fun r w' => ∃ A c, r = .returned (.slice A b9.recs.length c) ∧ ChR w' w'.heap.size A c b9.recs ∧ Below W.heap.size W w' ∧ Below w7.heap.size w7 w') := qh fun W hb => (HK.out.records _ p2 G7 _ c9b W (HC7.out.next HK.out hb).st ((HC7.out.next HK.out hb).few (by have := HJ8.out; have := HKb.out; omega))).mono fun _ _ ⟨A, c, e, h1, h⟩ => by
       have hq : c9b.recs = b9.recs := by rw [HLk9.out.eq]
       rw [hq] at e h1
       exact ⟨A, c, e, h1.ch, h, hb.trans (h.mono hb.size)⟩
      have HOkR : Hid (okRs b9.recs) := qh (by
       have hwg := HR7.out.wgt
       unfold WgtT at hwg
       have := HJ8.out
       have := HKb.out
       constructor <;> omega)
      clear hlo htm
      (first | (refine hK.out _ _ ?_ (fun hG2 => ?_)) | (go_wp2_with fail; refine hK.out _ _ ?_ (fun hG2 => ?_)))
      ·exact HKw.out _ HB8.out
      clear hK K' hGd
      have hGd := hG2
      clear hG2
      (try simp only [Act.put, qA, qB, qC])
      refine tkS (i := 5) (v := ?_) ?_
      (try simp only [Act.put, qA, qB, qC])
      refine tkS (i := 6) (v := ?_) ?_
      (try simp only [Act.put, qA, qB, qC])
      refine tkS (i := 7) (v := ?_) ?_
      (try simp only [Act.put, qA, qB, qC])
      refine tkS (i := 9) (v := ?_) ?_
      (try simp only [Act.put, qA, qB, qC])
      refine stH (i := 8) (fun K' hK => ?_)
      go_simp
      go_at_call 21; refine (HLoB.out _ HB8.out).mono ?_; rintro r w9 ⟨rfl, hbn⟩; have HB9b := qh hbn; clear hbn
      (first | (refine hK.out _ _ ?_ (fun hG2 => ?_)) | (go_wp2_with fail; refine hK.out _ _ ?_ (fun hG2 => ?_)))
      ·exact HKw.out _ HB9b.out
      clear hK K' hGd
      have hGd := hG2
      clear hG2
      (try simp only [Act.put, qA, qB, qC])
      refine stH (i := 10) (fun K' hK => ?_)
      go_simp
      go_at_call 21; refine (HLoC.out _ HB9b.out).mono ?_; rintro r w10 ⟨rfl, hbn⟩; have HB10 := qh hbn; clear hbn
      (first | (refine hK.out _ _ ?_ (fun hG2 => ?_)) | (go_wp2_with fail; refine hK.out _ _ ?_ (fun hG2 => ?_)))
      ·exact HKw.out _ HB10.out
      clear hK K' hGd
      have hGd := hG2
      clear hG2
      (try simp only [Act.put, qA, qB, qC])
      refine tkS (i := 11) (v := ?_) ?_
      (try simp only [Act.put, qA, qB, qC])
      refine tkS (i := 12) (v := ?_) ?_
      (try simp only [Act.put, qA, qB, qC])
      refine tkS (i := 13) (v := ?_) ?_
      (try simp only [Act.put, qA, qB, qC])
      refine tkS (i := 14) (v := ?_) ?_
      (try simp only [Act.put, qA, qB, qC])
      refine tkS (i := 16) (v := ?_) ?_
      (try simp only [Act.put, qA, qB, qC])
      refine stH (i := 15) (fun K' hK => ?_)
      go_simp
      go_at_call 20; refine (HNwB.out _ HB10.out).mono ?_; rintro r w11 ⟨rfl, hbn⟩; have HB11 := qh hbn; clear hbn
      (first | (refine hK.out _ _ ?_ (fun hG2 => ?_)) | (go_wp2_with fail; refine hK.out _ _ ?_ (fun hG2 => ?_)))
      ·exact HKw.out _ HB11.out
      clear hK K' hGd
      have hGd := hG2
      clear hG2
      (try simp only [Act.put, qA, qB, qC])
      refine stH (i := 17) (fun K' hK => ?_)
      go_simp
      go_at_call 20; refine (HNwC.out _ HB11.out).mono ?_; rintro r w12 ⟨rfl, hbn⟩; have HB12 := qh hbn; clear hbn
      (first | (refine hK.out _ _ ?_ (fun hG2 => ?_)) | (go_wp2_with fail; refine hK.out _ _ ?_ (fun hG2 => ?_)))
      ·exact HKw.out _ HB12.out
      clear hK K' hGd
      have hGd := hG2
      clear hG2
      (try simp only [Act.put, qA, qB, qC])
      refine tkS (i := 18) (v := ?_) ?_
      (try simp only [Act.put, qA, qB, qC])
      refine tkS (i := 19) (v := ?_) ?_
      (try simp only [Act.put, qA, qB, qC])
      refine tkS (i := 20) (v := ?_) ?_
      (try simp only [Act.put, qA, qB, qC])
      refine tkS (i := 21) (v := ?_) ?_
      (try simp only [Act.put, qA, qB, qC])
      refine tkS (i := 23) (v := ?_) ?_
      (try simp only [Act.put, qA, qB, qC])
      refine stH (i := 22) (fun K' hK => ?_)
      go_simp
      go_at_call 29; refine (HReB.out _ HB12.out).mono ?_; rintro r w13 ⟨A13, c13, rfl, hc13, hbn⟩; have HB13 := qh hbn; have HC13 := qh hc13; clear hbn hc13
      (first | (refine hK.out _ _ ?_ (fun hG2 => ?_)) | (go_wp2_with fail; refine hK.out _ _ ?_ (fun hG2 => ?_)))
      ·exact HKw.out _ HB13.out
      clear hK K' hGd
      have hGd := hG2
      clear hG2
      (try simp only [Act.put, qA, qB, qC])
      refine stH (i := 24) (fun K' hK => ?_)
      go_simp
      go_at_call 29; refine (HReC.out _ HB13.out).mono ?_; rintro r w14 ⟨A14, c14, rfl, hc14, hbk, hbn⟩; have HB14 := qh hbn; have HSr := qh (q98 b9.recs b9.recs A13 A14 c13 c14 w14 HOkR.out HOkR.out (HC13.out.below hbk (Nat.le_refl _) hbk.size) hc14); clear hbn hc14 hbk; rw [qcc] at HSr
      (first | (refine hK.out _ _ ?_ (fun hG2 => ?_)) | (go_wp2_with fail; refine hK.out _ _ ?_ (fun hG2 => ?_)))
      ·exact HKw.out _ HB14.out
      clear hK K' hGd
      have hGd := hG2
      clear hG2
      (try simp only [Act.put, qA, qB, qC])
      refine stH (i := 25) (fun K' hK => ?_)
      go_simp
      go_at_call 28; refine HSr.out.mono ?_; rintro r w15 ⟨rfl, hbn⟩; have HB15 := qh (HB14.out.trans (hbn.mono HB14.out.size)); clear hbn
      (first | (refine hK.out _ _ ?_ (fun hG2 => ?_)) | (go_wp2_with fail; refine hK.out _ _ ?_ (fun hG2 => ?_)))
      ·exact HKw.out _ HB15.out
      clear hK K' hGd
      have hGd := hG2
      clear hG2
      (try simp only [Act.put, qA, qB, qC])
      refine tkS (i := 26) (v := ?_) ?_
      (try simp only [Act.put, qA, qB, qC])
      refine tkS (i := 27) (v := ?_) ?_
      (try simp only [Act.put, qA, qB, qC])
      refine wpAnyH_done (by kernel_rfl) ?_ _
      clear HKp HRdc HKw hGd
      go_wp2_with fail
      go_roundg (gk - 1)
      case measure => have := HJ.out; omega
      case rel => exact ⟨j + 1, kb + 1, kc + 1, low', b9, c9b, FB9, G7, by have := HJ.out; omega, by go_num, by have := HKb.out; omega, by have := HKb.out; omega, HR7.out.next HK.out HB15.out, HC7.out.next HK.out HB15.out, HDJ7.out, HLk9.out⟩
    ·have hlt : decide ((j : Int) < (a.length : Int)) = false := by simpa using hj
     have HJ8 : Hid (j ≤ 80) := qh (by have := HJ.out; have := HFlA.out; omega)
     have hAb := HK.out.all _ p FB _ sb wr HNB.out.st
     obtain ⟨sp, hsp⟩ : ∃ y, q1w sb.st.K [] [] sb.st.time = y := ⟨_, rfl⟩
     rw [hsp] at hAb
     have HAb := qh hAb
     have HSpC : Hid (q1w sc.st.K [] [] sc.st.time = sp) := qh (by rw [← hsp, ← HLk.out.like.time, HLk.out.like.scan HLk.out.like.upto])
     have HHb : Hid (∀ W, Below wr.heap.size wr W → Calls Tryz.prog 31 #[.pointer (some ⟨p, 0, none⟩)] W fun r w' => ∃ A c, r = .returned (.slice A sb.hist.length c) ∧ DoS w' (fun _ => True) A c sb.hist ∧ Below wr.heap.size wr w') := qh fun W hb => (HK.out.history _ p FB _ sb W (HNB.out.next HK.out hb).st ((HNB.out.next HK.out hb).few (by have := HJ8.out; have := HKb.out; omega))).mono fun _ _ ⟨A, c, e, h1, h⟩ => ⟨A, c, e, h1.keep fun _ _ _ => ⟨rfl, trivial⟩, hb.trans (h.mono hb.size)⟩
     have HHc : Hid (∀ W, Below wr.heap.size wr W → Calls Tryz.prog 31 #[.pointer (some ⟨p2, 0, none⟩)] W fun r w' => ∃ A c, r = .returned (.slice A sb.hist.length c) ∧ DoS w' (fun _ => True) A c sb.hist ∧ Below W.heap.size W w' ∧ Below wr.heap.size wr w') := qh fun W hb => (HK.out.history _ p2 GC _ sc W (HNC.out.next HK.out hb).st ((HNC.out.next HK.out hb).few (by have := HJ8.out; have := HKb.out; omega))).mono fun _ _ ⟨A, c, e, h1, h⟩ => by
      have hq : sc.hist = sb.hist := by rw [HLk.out.eq]
      rw [hq] at e h1
      exact ⟨A, c, e, h1.keep fun _ _ _ => ⟨rfl, trivial⟩, h, hb.trans (h.mono hb.size)⟩
     clear hAb hsp
     unfold ptrS at HAb
     go_wp2_with fail
     refine HAb.out.mono ?_
     rintro r w6b ⟨A6, c6, rfl, hp6, hb6⟩
     have hAc := HK.out.all _ p2 GC _ sc w6b (HNC.out.next HK.out hb6).st
     rw [HSpC.out] at hAc
     have HAc := qh hAc
     have HP6 := qh hp6
     have HB6 := qh hb6
     clear hAc hp6 hb6
     unfold ptrS at HAc
     go_wp2_with fail
     refine HAc.out.mono ?_
     rintro r w7 ⟨A7, c7, rfl, hp7, hb7⟩
     have hp67 : PaS w7 (fun _ => True) A6 c6 sp := HP6.out.keep fun g _ hlt => ⟨hb7.block g hlt, trivial⟩
     have hspl : sp.length ≤ 9223372036854775807 := by have := hp7.1; have := hp7.2.1; unfold maxLen at *; omega
     have hSm := q4K sp sp A6 A7 c6 c7 _ _ _ _ w7 hspl hspl hp67.ch.2.2.2 hp7.ch.2.2.2
     rw [qcb] at hSm
     have HSm := qh hSm
     have HB7 := qh (HB6.out.trans (hb7.mono HB6.out.size))
     clear hSm hspl hp67 hp7 hb7
     go_wp2_with fail
     refine HSm.out.mono ?_
     rintro r w8 ⟨rfl, hb8⟩
     have HB8 := qh (HB7.out.trans (hb8.mono HB7.out.size))
     clear hb8 HSm
     go_wp2_with fail
     refine (HHb.out _ HB8.out).mono ?_
     rintro r w9 ⟨A9, c9, rfl, hd9, hb9⟩
     have HD9 := qh hd9
     have HB9 := qh hb9
     clear hd9 hb9
     go_wp2_with fail
     refine (HHc.out _ HB9.out).mono ?_
     rintro r w10 ⟨A10, c10, rfl, hd10, hbk, hb10⟩
     have HSd := qh (qe4 sb.hist A9 A10 c9 c10 w10 _ _ (HD9.out.keep (T := fun _ => True) fun g _ hlt => ⟨hbk.block g hlt, trivial⟩) hd10)
     have HB10 := qh hb10
     clear hd10 hbk hb10
     go_wp2_with fail
     refine HSd.out.mono ?_
     rintro r w11 ⟨rfl, hb11⟩
     have HB11 := qh (HB10.out.trans (hb11.mono HB10.out.size))
     have HBe := qh (HB0.out.trans ((HNB.out.bel.trans (HB11.out.mono HNB.out.bel.size)).mono HB0.out.size))
     clear hb11
     go_wp2_with fail
     go_ret
     exact ⟨rfl, HBe.out⟩
  ·have HMd : Hid (∀ wx, Below w0.heap.size w0 wx → Calls Tryz.prog 35 #[.agg #[.int .i64 keys, .int .i64 vers, .int .i64 byts, .int .i64 marks, .int .i64 recs, .int .i64 live, .int .u64 last]] wx fun r w' => r = .returned (.pointer none) ∧ Below w0.heap.size w0 w') := qh fun wx hb =>
    (q6q K ⟨⟨keys, vers, byts, last⟩, marks, recs, live⟩ w0.heap.size wx hb.size h1 h2 h3 h4 h5 h6 h7).mono fun r W' ⟨h1, h2⟩ => by
     rw [if_neg hm] at h2
     exact ⟨h2, hb.trans (h1.mono hb.size)⟩
   have HMay : Hid (∀ wx, Below w0.heap.size w0 wx → Calls Tryz.prog 15 #[.agg #[.int .i64 keys, .int .i64 vers, .int .i64 byts, .int .i64 marks, .int .i64 recs, .int .i64 live, .int .u64 last]] wx fun r w' => r = .returned (.bool false) ∧ Below w0.heap.size w0 w') := qh fun wx hb =>
    (qfe ⟨⟨keys, vers, byts, last⟩, marks, recs, live⟩ wx).mono fun _ _ q => by
     rw [show MayT ⟨⟨keys, vers, byts, last⟩, marks, recs, live⟩ = false by simpa using hm] at q
     exact ⟨q.1, hb.trans (q.2.mono hb.size)⟩
   clear K O ha ha0 fa fla fwa hm h1 h2 h3 h4 h5 h6 h7
   go_enter Tryz.func8, Tryz.ntmps8
   go_upto_region 1 with fail
   rw [HW0.out]
   clear HW0
   go_wp2_with (first
    | (go_at_call 12; (with_reducible refine (HL.out _ (by assumption)).mono ?_); rintro r w' ⟨rfl, hb6⟩)
    | (go_at_call 13; (with_reducible refine (HFA.out _ (by assumption)).mono ?_); rintro r w' ⟨rfl, hb6⟩; obtain ⟨z0, z1, z2, z3, z4, z5, z6⟩ := HLim.out _ hb6))
   obtain ⟨S, hS1, hS2⟩ : ∃ S : World → Prop, (∀ W : World, Below w0.heap.size w0 W → S W) ∧ ∀ W : World, S W → W.cell? ⟨w.heap.size, 0, none⟩ = some (.int .i64 keys) ∧ W.cell? ⟨w.heap.size, 1, none⟩ = some (.int .i64 vers) ∧ W.cell? ⟨w.heap.size, 2, none⟩ = some (.int .i64 byts) ∧ W.cell? ⟨w.heap.size, 3, none⟩ = some (.int .i64 marks) ∧ W.cell? ⟨w.heap.size, 4, none⟩ = some (.int .i64 recs) ∧ W.cell? ⟨w.heap.size, 5, none⟩ = some (.int .i64 live) ∧ W.cell? ⟨w.heap.size, 6, none⟩ = some (.int .u64 last) :=
    ⟨fun W => Below w0.heap.size w0 W, fun _ h => h, fun W h => HLim.out W h⟩
   have HKp := qh hS1
   have HRdc := qh hS2
   clear hS1 hS2
   refine wp_region_held_drew (S := S) (by kernel_rfl) ?_ (fun hGd => ?_)
   ·exact HKp.out _ hb6.drew
   refine tkH (i := 0) (v := ?_) (fun w hSw => ?_) ?_
   rotate_left
   ·obtain ⟨z0, z1, z2, z3, z4, z5, z6⟩ := HRdc.out _ hSw; go_simp <;> with_reducible rfl
   (try simp only [Act.put, qA, qB, qC])
   refine tkH (i := 2) (v := ?_) (fun w hSw => ?_) ?_
   rotate_left
   ·obtain ⟨z0, z1, z2, z3, z4, z5, z6⟩ := HRdc.out _ hSw; go_simp <;> with_reducible rfl
   (try simp only [Act.put, qA, qB, qC])
   refine stH (i := 1) (fun K' hK => ?_)
   go_simp
   go_at_call 35; refine (HMd.out _ hb6.drew).mono ?_; rintro r w5 ⟨rfl, hb5⟩; have HB5 := qh hb5
   (first | (refine hK.out _ _ ?_ (fun hG2 => ?_)) | (go_wp2_with fail; refine hK.out _ _ ?_ (fun hG2 => ?_)))
   ·exact HKp.out _ HB5.out
   clear hK K' hGd
   have hGd := hG2
   clear hG2
   (try simp only [Act.put, qA, qB, qC])
   refine stH (i := 3) (fun K' hK => ?_)
   go_simp
   go_at_call 35; refine (HMd.out _ HB5.out).mono ?_; rintro r w6 ⟨rfl, hb6b⟩; have HB6 := qh hb6b; obtain ⟨z0, z1, z2, z3, z4, z5, z6⟩ := HLim.out _ hb6b
   (first | (refine hK.out _ _ ?_ (fun hG2 => ?_)) | (go_wp2_with fail; refine hK.out _ _ ?_ (fun hG2 => ?_)))
   ·exact HKp.out _ HB6.out
   clear hK K' hGd
   have hGd := hG2
   clear hG2
   (try simp only [Act.put, qA, qB, qC])
   refine tkS (i := 4) (v := ?_) ?_
   (try simp only [Act.put, qA, qB, qC])
   refine tkS (i := 5) (v := ?_) ?_
   (try simp only [Act.put, qA, qB, qC])
   refine wpAnyH_done (by kernel_rfl) ?_ _
   go_wp2_with fail
   refine (HMay.out _ HB6.out).mono ?_
   rintro r w7 ⟨rfl, hb7⟩
   have HB7 := qh hb7
   clear hb7
   go_wp2_with fail
   go_ret
   exact ⟨rfl, HB0.out.trans (HB7.out.mono HB0.out.size)⟩
 ·rw [show fewT a = false by simpa using fa] at HFA
  clear K O ha ha0 fa h1 h2 h3 h4 h5 h6 h7
  go_enter Tryz.func8, Tryz.ntmps8
  go_upto_region 1 with fail
  rw [HW0.out]
  clear HW0
  go_wp2_with (first
   | (go_at_call 12; (with_reducible refine (HL.out _ (by assumption)).mono ?_); rintro r w' ⟨rfl, hb6⟩)
   | (go_at_call 13; (with_reducible refine (HFA.out _ (by assumption)).mono ?_); rintro r w' ⟨rfl, hb6⟩; obtain ⟨z0, z1, z2, z3, z4, z5, z6⟩ := HLim.out _ hb6))
  go_ret
  exact ⟨rfl, HB0.out.trans (hb6.mono HB0.out.size)⟩
end txnUnseen
end Go.Proofs.YtdpbllacfljmoaaGreat
