import Derived.Test.YtdpbllacfljmoaaGreatZF43
set_option maxRecDepth 100000
set_option maxHeartbeats 16000000
set_option linter.unusedVariables false
namespace Go.Proofs.YtdpbllacfljmoaaGreat
open Go.RowKit
section
variable {w w' w0 w1 w2 : World} {o p : Nat} {ρ ρ' ρ0 ρ1 ρ2 : q0o} {L : LimT} {b b' : q08} {ps B : Nat} {P P' : Nat → TxP} {rv hv : Value} {F F' : Nat → Prop} {t t' : TxS} {X : Nat → Prop}
theorem qfm (hm : 1 ≤ L.recs) : q97 L = L.recs.toNat := by unfold q97; rw [Int.max_eq_left hm]
theorem q8p (h : RawB w o p ρ L b ps B P rv hv) (hi : IdsT b.live) (hri : q4V b.recs) (hrl : okRs b.recs) (hmay : MayT L = true) (t : TxS) :
  Calls Tryz.prog 85 #[ptrS p, .int .i64 (t.id : Nat)] w fun r w' => r = .returned (.tuple #[]) ∧ q6U w o p ρ L (q27 (FT L) L b t) ps B P w' := by
 have hmk := q3E hmay
 obtain ⟨w1, hdel, hl1, hg1, hs1⟩ := h.live.drop (P := Tryz.prog) (ty := 0) (t2 := 3) Tryz.underlying90 Tryz.underlying3 (t.id : Int)
 have hraw1 := h.dropTx t.id hl1 hg1 hs1
 have hreach1 : Reach ρ w ρ w1 := ⟨q6u hg1 (by unfold ownR; rw [h.rB]; omega), fun _ q => .inl q⟩
 have hE : q27 (FT L) L b t = ⟨b.st, b.live.filter (fun x => decide (x.id ≠ t.id)), fitR (jI L.marks) L.recs.toNat (q0c b.recs (lowT ⟨b.st, b.live.filter (fun x => decide (x.id ≠ t.id)), b.recs, b.hist, b.last, b.event⟩)), b.hist, b.last, b.event⟩ := by
  unfold q27
  rw [qg0, qfm (by omega)]
  rfl
 have hids : IdsT (b.live.filter fun x => decide (x.id ≠ t.id)) := List.Pairwise.filter _ hi
 have hlow : lowT ⟨b.st, b.live.filter (fun x => decide (x.id ≠ t.id)), b.recs, b.hist, b.last, b.event⟩ < 18446744073709551616 := Nat.lt_of_le_of_lt (q4C _) hraw1.time_lt
 have hlw := q4x hraw1 hids
 rw [hE]
 clear hE
 generalize lowT ⟨b.st, b.live.filter (fun x => decide (x.id ≠ t.id)), b.recs, b.hist, b.last, b.event⟩ = low at *
 generalize b.live.filter (fun x => decide (x.id ≠ t.id)) = lv at *
 have HLow := qh hlw
 have HDel := qh hdel
 have HRaw1 := qh hraw1
 have HReach1 := qh hreach1
 have c8 := h.live_
 have HRi := qh hri
 have HRl := qh hrl
 have hM1 : 1 ≤ L.marks := hmk.2.1
 have hM2 : L.marks ≤ 1048576 := hmk.2.2.1
 have hR1 : 1 ≤ L.recs := hmk.2.2.2.1
 have hR2 : L.recs ≤ 1048576 := hmk.2.2.2.2.1
 simp only [intK] at hdel
 clear h hi hri hrl hmay hmk hraw1 hreach1 hids hlw hl1 hg1 hs1
 unfold ptrS at HLow ⊢
 go_enter Tryz.func85, Tryz.ntmps85
 go_wp2_with fail
 clear c8 hdel
 refine HLow.out.mono ?_
 rintro e w2 ⟨rfl, hb2⟩
 have HRaw2 := qh (HRaw1.out.below hb2)
 have HReach2 := qh (HReach1.out.trans (Reach.below (ρ := ρ) hb2))
 clear hb2
 obtain ⟨A2, k2, hrv2, hch2⟩ := HRaw2.out.recs.ch
 simp only at hrv2 hch2
 subst hrv2
 have HCh2 := qh hch2
 have c11 := HRaw2.out.recs_
 clear hch2
 have hlen2 := HRl.out.1
 by_cases hcond : ∃ r0, b.recs.head? = some r0 ∧ r0.last ≤ low
 ·obtain ⟨r0, hr0, hle⟩ := hcond
  have hpos : 0 < b.recs.length := by cases hq : b.recs with
   | nil => rw [hq] at hr0; cases hr0
   | cons x l => simp
  have d1 : decide ((b.recs.length : Int) > 0) = true := by simp only [decide_eq_true_eq]; omega
  have d2 : decide ((0 : Int) < (b.recs.length : Int)) = true := by simp only [decide_eq_true_eq]; omega
  obtain ⟨_, _, _, ms, hms, hrow, _⟩ := HCh2.out
  have hmlen : 0 < ms.length := by rw [← List.length_map (f := MR.r), hms]; exact hpos
  obtain ⟨g2, o2, rfl, _, _, hcell⟩ := hrow.at_ mrF hmlen
  have hx0 : (ms[0]'hmlen).r = r0 := by
   have e : b.recs.head? = some (ms[0]'hmlen).r := by rw [← hms, List.head?_map, List.head?_eq_getElem?, List.getElem?_eq_getElem hmlen]; rfl
   rw [hr0] at e
   injection e with e
   exact e.symm
  have c1 := hcell 1 _ rfl
  rw [hx0] at c1
  simp only [Nat.zero_mul, Nat.add_zero] at c1
  have d3 : decide ((r0.last : Int) ≤ (low : Int)) = true := by simpa using hle
  have hidx : decide ((0 : Int) < (b.recs.length : Int)) = true := d2
  have HFg : Hid (∀ W : World, Below w2.heap.size w2 W → Calls Tryz.prog 137 #[.slice (some ⟨g2, o2, none⟩) b.recs.length k2, .int .u64 (low : Nat)] W (q4p (q0c b.recs low) W)) :=
   qh fun W hb => q5o b.recs (some ⟨g2, o2, none⟩) k2 low W HRl.out hlow (HCh2.out.below hb (Nat.le_refl _) hb.size)
  clear hcell hrow hms hmlen hx0 hr0
  go_wp2_with fail
  refine (HFg.out _ (Below.refl _ _)).mono ?_
  intro r w3 hret
  obtain ⟨v3, rfl, ρ3, hr3, hre3, hb3⟩ := HRaw2.out.toldRecs hret
  obtain ⟨A3, k3, e3, _⟩ := hr3.recs.ch
  simp only at e3
  subst e3
  have HRX := qh hr3
  have HReX := qh (HReach2.out.trans hre3)
  have f11 := (HRaw2.out.below hb3).frozen 11
  have g11 := (HRaw2.out.below hb3).recs_
  have HOkX := qh (HRl.out.forget low)
  obtain ⟨wx, hwx⟩ : ∃ y, w3.setCell ⟨p, 11, none⟩ (.slice A3 (q0c b.recs low).length k3) = y := ⟨_, rfl⟩
  rw [hwx] at HRX HReX
  have HWx := qh hwx
  clear hr3 hre3 hret hb3 hwx c11 c1 d1 d2 d3 hidx
  go_upto_region 4 with fail
  rw [HWx.out]
  clear f11 g11
  obtain ⟨wd, hwd⟩ : ∃ y, wx.drew = y := ⟨_, rfl⟩
  have hbd : Below wx.heap.size wx wd := by rw [← hwd]; exact (Below.refl _ _).drew
  have HWd := qh hwd
  have HRawd := qh (HRX.out.below hbd)
  have HReachd := qh (HReX.out.trans (Reach.below hbd))
  obtain ⟨AX, kX, eX, hchX⟩ := HRawd.out.recs.ch
  simp only at eX hchX
  have HEX := qh eX
  have HChX := qh hchX
  have q11 : wx.cell? ⟨p, 11, none⟩ = some (.slice AX (q0c b.recs low).length kX) := by rw [← eX]; exact HRX.out.recs_
  have q4 := HRX.out.recsL
  have k11 : wx.drew.cell? ⟨p, 11, none⟩ = some (.slice AX (q0c b.recs low).length kX) := q11
  have k4 : wx.drew.cell? ⟨p, 4, none⟩ = some (.int .i64 L.recs) := q4
  have hlenX := HOkX.out.1
  clear hchX hwd hbd eX
  by_cases hfew : ((q0c b.recs low).length : Int) ≤ L.recs
  ·have d5 : decide (((q0c b.recs low).length : Int) > L.recs) = false := by simpa using hfew
   have d6 : decide (L.recs < ((q0c b.recs low).length : Int)) = false := by simpa using hfew
   have HFw := qh (show fitR (jI L.marks) L.recs.toNat (q0c b.recs low) = q0c b.recs low from q3R (by omega))
   go_region
   rw [HWd.out]
   go_wp2_with fail
   go_end0
   rw [HFw.out]
   exact ⟨rfl, _, _, _, _, HRawd.out, HReachd.out, fun _ => rfl⟩
  ·have d5 : decide (((q0c b.recs low).length : Int) > L.recs) = true := by simp only [decide_eq_true_eq]; omega
   have d6 : decide (L.recs < ((q0c b.recs low).length : Int)) = true := by simp only [decide_eq_true_eq]; omega
   have HFit : Hid (∀ W : World, Below wd.heap.size wd W → Calls Tryz.prog 138 #[.slice AX (q0c b.recs low).length kX, .int .i64 L.recs, .int .i64 L.marks] W (q4p (fitR (jI L.marks) L.recs.toNat (q0c b.recs low)) W)) :=
    qh fun W hb => q66 qap (q0c b.recs low) AX kX L.recs L.marks W HOkX.out (by omega) (by omega) (by omega) (by omega) (HChX.out.below hb (Nat.le_refl _) hb.size)
   obtain ⟨S, hS1, hS2, hS3⟩ : ∃ S : World → Prop, (∀ W : World, Below wd.heap.size wd W → S W) ∧ (∀ (W W' : World) (v : Value), Below wd.heap.size wd W → q4p (fitR (jI L.marks) L.recs.toNat (q0c b.recs low)) W (.returned v) W' → S (W'.setCell ⟨p, 11, none⟩ v)) ∧ ∀ W : World, S W → (W.cell? ⟨p, 3, none⟩ = some (.int .i64 L.marks) ∧ W.cell? ⟨p, 4, none⟩ = some (.int .i64 L.recs)) ∧ (Below wd.heap.size wd W → W.cell? ⟨p, 11, none⟩ = some (.slice AX (q0c b.recs low).length kX)) := by
    refine ⟨fun W => W.cell? ⟨p, 3, none⟩ = some (.int .i64 L.marks) ∧ W.cell? ⟨p, 4, none⟩ = some (.int .i64 L.recs), fun W hb => ⟨(HRawd.out.below hb).marksL, (HRawd.out.below hb).recsL⟩, fun W W' v hb hr => ?_, fun W q => ⟨q, fun hb => by rw [← HEX.out]; exact (HRawd.out.below hb).recs_⟩⟩
    obtain ⟨v', e, ρ', hr', _⟩ := (HRawd.out.below hb).toldRecs hr
    injection e with e
    subst e
    exact ⟨hr'.marksL, hr'.recsL⟩
   have HKp := qh hS1
   have HKr := qh hS2
   have HRd := qh hS3
   have HFin : Hid (∀ (W W' : World) (r : Ending), Below wd.heap.size wd W → q4p (fitR (jI L.marks) L.recs.toNat (q0c b.recs low)) W r W' → ∃ A k n, r = .returned (.slice A n k) ∧ q4p (fitR (jI L.marks) L.recs.toNat (q0c b.recs low)) W (.returned (.slice A n k)) W' ∧ Below wd.heap.size wd W' ∧ q6U w o p ρ L ⟨b.st, lv, fitR (jI L.marks) L.recs.toNat (q0c b.recs low), b.hist, b.last, b.event⟩ ps B P (W'.setCell ⟨p, 11, none⟩ (.slice A n k))) := qh fun W W' r hb hr => by
    obtain ⟨v, e, ρ', hr', hre, hbb⟩ := (HRawd.out.below hb).toldRecs hr
    subst e
    obtain ⟨A, k, e, _⟩ := hr'.recs.ch
    subst e
    exact ⟨A, k, _, rfl, hr, hb.trans (hbb.mono hb.size), ρ', P, _, hv, hr', (HReachd.out.trans (Reach.below hb)).trans hre, fun _ => rfl⟩
   have hfz : ∀ W : World, Below wd.heap.size wd W → W.frozen? ⟨p, 11, none⟩ = false := fun W hb => (HRawd.out.below hb).frozen 11
   have HFz := qh hfz
   have HC11 : Hid (∀ W : World, Below wd.heap.size wd W → W.cell? ⟨p, 11, none⟩ = some (.slice AX (q0c b.recs low).length kX)) := qh fun W hb => by rw [← HEX.out]; exact (HRawd.out.below hb).recs_
   clear hS1 hS2 hS3 hfz
   go_region
   rw [HWd.out]
   clear q11 q4 k11 k4
   have q11 := HC11.out _ (Below.refl _ _).drew
   go_upto_region 5 with fail
   refine wp_region_held_drew (S := S) (by kernel_rfl) ?_ (fun hGd => ?_)
   ·exact HKp.out _ (Below.refl _ _).drew
   refine tkS (i := 0) (v := ?_) ?_
   (try simp only [Act.put, qA, qB, qC])
   refine tkS (i := 1) (v := ?_) ?_
   (try simp only [Act.put, qA, qB, qC])
   refine tkS (i := 2) (v := ?_) ?_
   (try simp only [Act.put, qA, qB, qC])
   refine tkS (i := 3) (v := ?_) ?_
   (try simp only [Act.put, qA, qB, qC])
   refine tkS (i := 5) (v := ?_) ?_
   (try simp only [Act.put, qA, qB, qC])
   refine tkS (i := 6) (v := ?_) ?_
   (try simp only [Act.put, qA, qB, qC])
   refine tkS (i := 7) (v := ?_) ?_
   (try simp only [Act.put, qA, qB, qC])
   refine tkS (i := 8) (v := ?_) ?_
   (try simp only [Act.put, qA, qB, qC])
   refine tkH (i := 9) (v := ?_) (fun w hSw => ?_) ?_
   rotate_left
   ·obtain ⟨⟨q3, q4⟩, _⟩ := HRd.out _ hSw; go_simp <;> with_reducible rfl
   (try simp only [Act.put, qA, qB, qC])
   refine tkS (i := 10) (v := ?_) ?_
   (try simp only [Act.put, qA, qB, qC])
   refine tkS (i := 11) (v := ?_) ?_
   (try simp only [Act.put, qA, qB, qC])
   refine tkS (i := 12) (v := ?_) ?_
   (try simp only [Act.put, qA, qB, qC])
   refine tkS (i := 13) (v := ?_) ?_
   (try simp only [Act.put, qA, qB, qC])
   refine tkH (i := 14) (v := ?_) (fun w hSw => ?_) ?_
   rotate_left
   ·obtain ⟨⟨q3, q4⟩, _⟩ := HRd.out _ hSw; go_simp <;> with_reducible rfl
   (try simp only [Act.put, qA, qB, qC])
   refine stH (i := 4) (fun K' hK => ?_)
   go_simp
   (first | (refine hK.out _ _ ?_ (fun hG2 => ?_)) | (go_wp2_with fail; refine hK.out _ _ ?_ (fun hG2 => ?_)))
   ·exact HKp.out _ (Below.refl _ _).drew
   clear hK K' hGd
   have hGd := hG2
   clear hG2
   (try simp only [Act.put, qA, qB, qC])
   refine stH (i := 15) (fun K' hK => ?_)
   go_simp
   go_at_call 138; with_reducible refine (HFit.out _ (Below.refl _ _).drew).mono ?_; intro r w5 hret; obtain ⟨A5, k5, n5, rfl, hret, hb5, hfin⟩ := HFin.out _ _ _ (Below.refl _ _).drew hret
   (first | (refine hK.out _ _ ?_ (fun hG2 => ?_)) | (go_wp2_with fail; refine hK.out _ _ ?_ (fun hG2 => ?_)))
   ·exact HKp.out _ hb5
   clear hK K' hGd
   have hGd := hG2
   clear hG2
   (try simp only [Act.put, qA, qB, qC])
   refine tkS (i := 16) (v := ?_) ?_
   (try simp only [Act.put, qA, qB, qC])
   refine tkS (i := 17) (v := ?_) ?_
   (try simp only [Act.put, qA, qB, qC])
   have f11 := HFz.out _ hb5
   have g11 := HC11.out _ hb5
   refine stH (i := 18) (fun K' hK => ?_)
   go_simp
   (first | (refine hK.out _ _ ?_ (fun hG2 => ?_)) | (go_wp2_with fail; refine hK.out _ _ ?_ (fun hG2 => ?_)))
   ·exact HKr.out _ _ _ (Below.refl _ _).drew hret
   clear hK K' hGd
   have hGd := hG2
   clear hG2
   (try simp only [Act.put, qA, qB, qC])
   refine wpAnyH_done (by kernel_rfl) ?_ _
   go_wp2_with fail
   go_end0
   exact ⟨rfl, hfin⟩
 ·have HRX := HRaw2
  have HReX := HReach2
  have hlate : q0c b.recs low = b.recs := qa5 HRi.out fun r hr => Nat.lt_of_not_le fun hle => hcond ⟨r, hr, hle⟩
  have HOkX := HRl
  have HLate := qh hlate
  by_cases hpos : 0 < b.recs.length
  ·have d1 : decide ((b.recs.length : Int) > 0) = true := by simp only [decide_eq_true_eq]; omega
   have d2 : decide ((0 : Int) < (b.recs.length : Int)) = true := by simp only [decide_eq_true_eq]; omega
   obtain ⟨_, _, _, ms, hms, hrow, _⟩ := HCh2.out
   have hmlen : 0 < ms.length := by rw [← List.length_map (f := MR.r), hms]; exact hpos
   obtain ⟨g2, o2, rfl, _, _, hcell⟩ := hrow.at_ mrF hmlen
   have hx0 : b.recs.head? = some (ms[0]'hmlen).r := by rw [← hms, List.head?_map, List.head?_eq_getElem?, List.getElem?_eq_getElem hmlen]; rfl
   have c1 := hcell 1 _ rfl
   simp only [Nat.zero_mul, Nat.add_zero] at c1
   have d3 : decide (((ms[0]'hmlen).r.last : Int) ≤ (low : Int)) = false := by
    have : low < (ms[0]'hmlen).r.last := Nat.lt_of_not_le fun hle => hcond ⟨_, hx0, hle⟩
    simp only [decide_eq_false_iff_not]
    omega
   have d4 : decide ((ms[0]'hmlen).r.last ≤ low) = false := by
    have : low < (ms[0]'hmlen).r.last := Nat.lt_of_not_le fun hle => hcond ⟨_, hx0, hle⟩
    simp only [decide_eq_false_iff_not]
    omega
   have d4' : low < (ms[0]'hmlen).r.last := Nat.lt_of_not_le fun hle => hcond ⟨_, hx0, hle⟩
   clear hcell hrow hx0 hms
   generalize (ms[0]'hmlen).r.last = rl at *
   go_upto_region 4 with fail
   clear c11 c1 d1 d2 d3 d4
   obtain ⟨wd, hwd⟩ : ∃ y, w2.drew = y := ⟨_, rfl⟩
   have hbd : Below w2.heap.size w2 wd := by rw [← hwd]; exact (Below.refl _ _).drew
   have HWd := qh hwd
   have HRawd := qh (HRX.out.below hbd)
   have HReachd := qh (HReX.out.trans (Reach.below hbd))
   obtain ⟨AX, kX, eX, hchX⟩ := HRawd.out.recs.ch
   simp only at eX hchX
   have HEX := qh eX
   have HChX := qh hchX
   have q11 : w2.cell? ⟨p, 11, none⟩ = some (.slice AX (b.recs).length kX) := by rw [← eX]; exact HRX.out.recs_
   have q4 := HRX.out.recsL
   have k11 : w2.drew.cell? ⟨p, 11, none⟩ = some (.slice AX (b.recs).length kX) := q11
   have k4 : w2.drew.cell? ⟨p, 4, none⟩ = some (.int .i64 L.recs) := q4
   have hlenX := HOkX.out.1
   clear hchX hwd hbd eX
   by_cases hfew : ((b.recs).length : Int) ≤ L.recs
   ·have d5 : decide (((b.recs).length : Int) > L.recs) = false := by simpa using hfew
    have d6 : decide (L.recs < ((b.recs).length : Int)) = false := by simpa using hfew
    have HFw := qh (show fitR (jI L.marks) L.recs.toNat (b.recs) = b.recs from q3R (by omega))
    go_region
    rw [HWd.out]
    go_wp2_with fail
    go_end0
    try rw [HLate.out]
    rw [HFw.out]
    exact ⟨rfl, _, _, _, _, HRawd.out, HReachd.out, fun _ => rfl⟩
   ·have d5 : decide (((b.recs).length : Int) > L.recs) = true := by simp only [decide_eq_true_eq]; omega
    have d6 : decide (L.recs < ((b.recs).length : Int)) = true := by simp only [decide_eq_true_eq]; omega
    have HFit : Hid (∀ W : World, Below wd.heap.size wd W → Calls Tryz.prog 138 #[.slice AX (b.recs).length kX, .int .i64 L.recs, .int .i64 L.marks] W (q4p (fitR (jI L.marks) L.recs.toNat (b.recs)) W)) :=
     qh fun W hb => q66 qap (b.recs) AX kX L.recs L.marks W HOkX.out (by omega) (by omega) (by omega) (by omega) (HChX.out.below hb (Nat.le_refl _) hb.size)
    obtain ⟨S, hS1, hS2, hS3⟩ : ∃ S : World → Prop, (∀ W : World, Below wd.heap.size wd W → S W) ∧ (∀ (W W' : World) (v : Value), Below wd.heap.size wd W → q4p (fitR (jI L.marks) L.recs.toNat (b.recs)) W (.returned v) W' → S (W'.setCell ⟨p, 11, none⟩ v)) ∧ ∀ W : World, S W → (W.cell? ⟨p, 3, none⟩ = some (.int .i64 L.marks) ∧ W.cell? ⟨p, 4, none⟩ = some (.int .i64 L.recs)) ∧ (Below wd.heap.size wd W → W.cell? ⟨p, 11, none⟩ = some (.slice AX (b.recs).length kX)) := by
     refine ⟨fun W => W.cell? ⟨p, 3, none⟩ = some (.int .i64 L.marks) ∧ W.cell? ⟨p, 4, none⟩ = some (.int .i64 L.recs), fun W hb => ⟨(HRawd.out.below hb).marksL, (HRawd.out.below hb).recsL⟩, fun W W' v hb hr => ?_, fun W q => ⟨q, fun hb => by rw [← HEX.out]; exact (HRawd.out.below hb).recs_⟩⟩
     obtain ⟨v', e, ρ', hr', _⟩ := (HRawd.out.below hb).toldRecs hr
     injection e with e
     subst e
     exact ⟨hr'.marksL, hr'.recsL⟩
    have HKp := qh hS1
    have HKr := qh hS2
    have HRd := qh hS3
    have HFin : Hid (∀ (W W' : World) (r : Ending), Below wd.heap.size wd W → q4p (fitR (jI L.marks) L.recs.toNat (b.recs)) W r W' → ∃ A k n, r = .returned (.slice A n k) ∧ q4p (fitR (jI L.marks) L.recs.toNat (b.recs)) W (.returned (.slice A n k)) W' ∧ Below wd.heap.size wd W' ∧ q6U w o p ρ L ⟨b.st, lv, fitR (jI L.marks) L.recs.toNat (b.recs), b.hist, b.last, b.event⟩ ps B P (W'.setCell ⟨p, 11, none⟩ (.slice A n k))) := qh fun W W' r hb hr => by
     obtain ⟨v, e, ρ', hr', hre, hbb⟩ := (HRawd.out.below hb).toldRecs hr
     subst e
     obtain ⟨A, k, e, _⟩ := hr'.recs.ch
     subst e
     exact ⟨A, k, _, rfl, hr, hb.trans (hbb.mono hb.size), ρ', P, _, hv, hr', (HReachd.out.trans (Reach.below hb)).trans hre, fun _ => rfl⟩
    have hfz : ∀ W : World, Below wd.heap.size wd W → W.frozen? ⟨p, 11, none⟩ = false := fun W hb => (HRawd.out.below hb).frozen 11
    have HFz := qh hfz
    have HC11 : Hid (∀ W : World, Below wd.heap.size wd W → W.cell? ⟨p, 11, none⟩ = some (.slice AX (b.recs).length kX)) := qh fun W hb => by rw [← HEX.out]; exact (HRawd.out.below hb).recs_
    clear hS1 hS2 hS3 hfz
    go_region
    rw [HWd.out]
    clear q11 q4 k11 k4
    have q11 := HC11.out _ (Below.refl _ _).drew
    go_upto_region 5 with fail
    refine wp_region_held_drew (S := S) (by kernel_rfl) ?_ (fun hGd => ?_)
    ·exact HKp.out _ (Below.refl _ _).drew
    refine tkS (i := 0) (v := ?_) ?_
    (try simp only [Act.put, qA, qB, qC])
    refine tkS (i := 1) (v := ?_) ?_
    (try simp only [Act.put, qA, qB, qC])
    refine tkS (i := 2) (v := ?_) ?_
    (try simp only [Act.put, qA, qB, qC])
    refine tkS (i := 3) (v := ?_) ?_
    (try simp only [Act.put, qA, qB, qC])
    refine tkS (i := 5) (v := ?_) ?_
    (try simp only [Act.put, qA, qB, qC])
    refine tkS (i := 6) (v := ?_) ?_
    (try simp only [Act.put, qA, qB, qC])
    refine tkS (i := 7) (v := ?_) ?_
    (try simp only [Act.put, qA, qB, qC])
    refine tkS (i := 8) (v := ?_) ?_
    (try simp only [Act.put, qA, qB, qC])
    refine tkH (i := 9) (v := ?_) (fun w hSw => ?_) ?_
    rotate_left
    ·obtain ⟨⟨q3, q4⟩, _⟩ := HRd.out _ hSw; go_simp <;> with_reducible rfl
    (try simp only [Act.put, qA, qB, qC])
    refine tkS (i := 10) (v := ?_) ?_
    (try simp only [Act.put, qA, qB, qC])
    refine tkS (i := 11) (v := ?_) ?_
    (try simp only [Act.put, qA, qB, qC])
    refine tkS (i := 12) (v := ?_) ?_
    (try simp only [Act.put, qA, qB, qC])
    refine tkS (i := 13) (v := ?_) ?_
    (try simp only [Act.put, qA, qB, qC])
    refine tkH (i := 14) (v := ?_) (fun w hSw => ?_) ?_
    rotate_left
    ·obtain ⟨⟨q3, q4⟩, _⟩ := HRd.out _ hSw; go_simp <;> with_reducible rfl
    (try simp only [Act.put, qA, qB, qC])
    refine stH (i := 4) (fun K' hK => ?_)
    go_simp
    (first | (refine hK.out _ _ ?_ (fun hG2 => ?_)) | (go_wp2_with fail; refine hK.out _ _ ?_ (fun hG2 => ?_)))
    ·exact HKp.out _ (Below.refl _ _).drew
    clear hK K' hGd
    have hGd := hG2
    clear hG2
    (try simp only [Act.put, qA, qB, qC])
    refine stH (i := 15) (fun K' hK => ?_)
    go_simp
    go_at_call 138; with_reducible refine (HFit.out _ (Below.refl _ _).drew).mono ?_; intro r w5 hret; obtain ⟨A5, k5, n5, rfl, hret, hb5, hfin⟩ := HFin.out _ _ _ (Below.refl _ _).drew hret
    (first | (refine hK.out _ _ ?_ (fun hG2 => ?_)) | (go_wp2_with fail; refine hK.out _ _ ?_ (fun hG2 => ?_)))
    ·exact HKp.out _ hb5
    clear hK K' hGd
    have hGd := hG2
    clear hG2
    (try simp only [Act.put, qA, qB, qC])
    refine tkS (i := 16) (v := ?_) ?_
    (try simp only [Act.put, qA, qB, qC])
    refine tkS (i := 17) (v := ?_) ?_
    (try simp only [Act.put, qA, qB, qC])
    have f11 := HFz.out _ hb5
    have g11 := HC11.out _ hb5
    refine stH (i := 18) (fun K' hK => ?_)
    go_simp
    (first | (refine hK.out _ _ ?_ (fun hG2 => ?_)) | (go_wp2_with fail; refine hK.out _ _ ?_ (fun hG2 => ?_)))
    ·exact HKr.out _ _ _ (Below.refl _ _).drew hret
    clear hK K' hGd
    have hGd := hG2
    clear hG2
    (try simp only [Act.put, qA, qB, qC])
    refine wpAnyH_done (by kernel_rfl) ?_ _
    go_wp2_with fail
    go_end0
    try rw [HLate.out]
    exact ⟨rfl, hfin⟩
  ·have d1 : decide ((b.recs.length : Int) > 0) = false := by simp only [decide_eq_false_iff_not]; omega
   have d2 : decide ((0 : Int) < (b.recs.length : Int)) = false := by simp only [decide_eq_false_iff_not]; omega
   go_upto_region 4 with fail
   clear c11 d1 d2
   obtain ⟨wd, hwd⟩ : ∃ y, w2.drew = y := ⟨_, rfl⟩
   have hbd : Below w2.heap.size w2 wd := by rw [← hwd]; exact (Below.refl _ _).drew
   have HWd := qh hwd
   have HRawd := qh (HRX.out.below hbd)
   have HReachd := qh (HReX.out.trans (Reach.below hbd))
   obtain ⟨AX, kX, eX, hchX⟩ := HRawd.out.recs.ch
   simp only at eX hchX
   have HEX := qh eX
   have HChX := qh hchX
   have q11 : w2.cell? ⟨p, 11, none⟩ = some (.slice AX (b.recs).length kX) := by rw [← eX]; exact HRX.out.recs_
   have q4 := HRX.out.recsL
   have k11 : w2.drew.cell? ⟨p, 11, none⟩ = some (.slice AX (b.recs).length kX) := q11
   have k4 : w2.drew.cell? ⟨p, 4, none⟩ = some (.int .i64 L.recs) := q4
   have hlenX := HOkX.out.1
   clear hchX hwd hbd eX
   by_cases hfew : ((b.recs).length : Int) ≤ L.recs
   ·have d5 : decide (((b.recs).length : Int) > L.recs) = false := by simpa using hfew
    have d6 : decide (L.recs < ((b.recs).length : Int)) = false := by simpa using hfew
    have HFw := qh (show fitR (jI L.marks) L.recs.toNat (b.recs) = b.recs from q3R (by omega))
    go_region
    rw [HWd.out]
    go_wp2_with fail
    go_end0
    try rw [HLate.out]
    rw [HFw.out]
    exact ⟨rfl, _, _, _, _, HRawd.out, HReachd.out, fun _ => rfl⟩
   ·exact absurd (show ((b.recs).length : Int) ≤ L.recs by omega) hfew
end
end Go.Proofs.YtdpbllacfljmoaaGreat
