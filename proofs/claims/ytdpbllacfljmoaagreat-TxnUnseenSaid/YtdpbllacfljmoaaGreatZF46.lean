import Derived.Test.YtdpbllacfljmoaaGreatZF45
set_option maxRecDepth 100000
set_option maxHeartbeats 16000000
set_option linter.unusedVariables false
namespace Go.Proofs.YtdpbllacfljmoaaGreat
open Go.RowKit
theorem qc6 {P : Program} {c : Code} {Q : Exit → Act → World → Prop} {a : Act} {w : World} {f : Nat → Option Addr → Nat → Option Addr → Nat → Act} {R : Nat → Option Addr → Nat → World → Prop}
  (h1 : c.wp P (Exit.then (fun a' w' => ∃ n A c B d, a' = f n A c B d ∧ R n B d w') fun _ _ _ => False) a w) (h2 : ∀ n A c B d w', R n B d w' → Q .normal (f n A c B d) w') : c.wp P Q a w :=
 Code.wp_mono (fun e a w h => by
  cases e with
  | normal =>
   obtain ⟨n, A, c, B, d, rfl, hr⟩ := (id h : ∃ n A c B d, a = f n A c B d ∧ R n B d w)
   exact h2 _ _ _ _ _ _ hr
  | _ => exact (id h : False).elim) h1
theorem qc5 {P : Program} {c : Code} {Q : Exit → Act → World → Prop} {a : Act} {w : World} {f : Option Addr → Nat → Nat → Act} {R : Option Addr → Nat → Nat → World → Prop}
  (h1 : c.wp P (Exit.then (fun a' w' => ∃ A n c, a' = f A n c ∧ R A n c w') fun _ _ _ => False) a w) (h2 : ∀ A n c w', R A n c w' → Q .normal (f A n c) w') : c.wp P Q a w :=
 Code.wp_mono (fun e a w h => by
  cases e with
  | normal =>
   obtain ⟨A, n, c, rfl, hr⟩ := (id h : ∃ A n c, a = f A n c ∧ R A n c w)
   exact h2 _ _ _ _ hr
  | _ => exact (id h : False).elim) h1
theorem q8z {K : Act → World → Prop} {Q : Exit → Act → World → Prop} {a : Act} {w : World} (h : K a w) : Exit.then K Q .normal a w := h
section
variable {w w' w0 w1 w2 : World} {o p : Nat} {ρ ρ' ρ0 ρ1 ρ2 : q0o} {L : LimT} {b b' : q08} {ps B : Nat} {P P' : Nat → TxP} {rv hv : Value} {F F' : Nat → Prop} {t t' : TxS} {X : Nat → Prop}
def q1K (L : LimT) (b : q08) (t : TxS) : q08 × q2X :=
 if q4v b.st t = true then (b, errT 100)
 else match q1M b.recs (askT (FT L) b.st t) with
  | none => (setT b (q2m L b.st t), errT 101)
  | some out =>
   if (q09 L.s b.st (q06 b.st t) (lowT b)).2.2 ≠ 0 then (⟨(q09 L.s b.st (q06 b.st t) (lowT b)).1, (setT b (q2m L b.st t)).live, b.recs, b.hist, b.last, b.event⟩, errT (q09 L.s b.st (q06 b.st t) (lowT b)).2.2)
   else (⟨(q09 L.s b.st (q06 b.st t) (lowT b)).1, (setT b (q2m L b.st t)).live,
     b.recs ++ [⟨max (q09 L.s b.st (q06 b.st t) (lowT b)).2.1 1, max (q09 L.s b.st (q06 b.st t) (lowT b)).2.1 1, t.began, out, q1y (FT L) b.st t, q1F (FT L) (q06 b.st t)⟩],
     b.hist ++ [⟨t.id, t.began, (q09 L.s b.st (q06 b.st t) (lowT b)).2.1, t.start, b.event + 1, q1y (FT L) b.st t, q1F (FT L) (q06 b.st t)⟩], b.last, b.event + 1⟩,
    ⟨(q09 L.s b.st (q06 b.st t) (lowT b)).2.1, 0, [], false, []⟩)
theorem q7D (h : RawB w o p ρ L b ps B P rv hv) (hok : OkTx L (fitN L.marks) b) (hsm : q0L b) (hmay : MayT L = true) (ht : t ∈ b.live) :
  Calls Tryz.prog 84 #[ptrS p, .int .i64 (t.id : Nat), ptrS (P t.id).q] w fun r w' => r = .returned (.tuple #[.int .u64 ((q1K L b t).2.n : Nat), .int .i64 (q1K L b t).2.e]) ∧ q6U w o p ρ L (q1K L b t).1 ps B P w' := by
 have hrise := q7U (hok.ws t ht)
 obtain ⟨hml, hwl, hws⟩ := q81 hsm ht
 have htb : t.began < 18446744073709551616 := Nat.lt_of_le_of_lt (hok.began t ht) h.time_lt
 obtain ⟨_, hm1, hm2, _⟩ := q3E hmay
 obtain ⟨ms, hms⟩ : ∃ ms, t.ws.map (mwOf (P t.id)) = ms := ⟨_, rfl⟩
 have hmw : ms.map MW.w = t.ws := by
  rw [← hms, List.map_map]
  exact List.map_id _
 have hmlen : ms.length ≤ 330 := by rw [← hms, List.length_map]; exact hwl
 have hmk : ∀ x ∈ ms, x.w.key.length ≤ 1000000 := fun x hx => by
  have h1 : x.w ∈ t.ws := by rw [← hmw]; exact List.mem_map.2 ⟨x, hx, rfl⟩
  have := (hws _ h1).1
  omega
 have hris := q9Y h ht hrise (by omega) hws
 rw [hms] at hris
 have HRis := qh hris
 have HRaw := qh h
 have HOk := qh hok
 have HRs := qh (q58 hsm)
 have HEv := qh (show b.event ≤ 990 ∧ (b.hist.map q6L).sum ≤ 990 by have h1 := hsm.1; unfold WgtT at h1; exact ⟨by omega, by omega⟩)
 have HMs := qh hms
 have HMw := qh hmw
 have HMk := qh hmk
 have HT := qh ht
 have HTb := qh htb
 have HTx := qh (show (∀ x ∈ t.ws, ByS w (datR ρ) ((P t.id).ad x.key).1 ((P t.id).ad x.key).2 x.dat) from (h.txs t ht).dat)
 have HWs := qh hws
 clear h hok hsm ht htb hms hmw hmk hris hrise hmay hws
 unfold ptrS at HRis ⊢
 go_enter Tryz.func84, Tryz.ntmps84
 go_wp2_with fail
 refine HRis.out.mono ?_
 rintro e w1 ⟨v1, rfl, ho1, hb1⟩
 obtain ⟨A1, c1, rfl, _, _, _, hrow1⟩ := ho1.form
 have HO1 := qh ho1
 have HB1 := qh hb1
 have HCl := qh (qbv (HRaw.out.below hb1) HT.out ms A1 c1 (by omega) (hrow1.wide (Nat.zero_le _) (Nat.le_refl _)) HMk.out HMw.out)
 clear ho1 hb1 hrow1 HRis
 unfold ptrS at HCl
 go_wp2_with fail
 refine HCl.out.mono ?_
 rintro e w2 ⟨rfl, hb2⟩
 have HB2 := qh (HB1.out.trans (hb2.mono HB1.out.size))
 have HO2 := qh (HO1.out.below hb2)
 clear hb2 HCl HB1 HO1
 cases hcl : q4v b.st t with
 | true =>
  have HI := qh (show q1K L b t = (b, errT 100) by unfold q1K; rw [if_pos hcl])
  go_wp2
  go_ret2
  rw [HI.out]
  exact ⟨rfl, ρ, P, rv, hv, HRaw.out.below HB2.out, Reach.below HB2.out, fun _ => rfl⟩
 | false =>
  have HRr := qh (q8u HRaw.out HB2.out HT.out HOk.out.ids hml hm1 hm2 HTb.out ms _ (by omega) HO2.out HMk.out HMw.out)
  have HCl0 := qh hcl
  clear hcl
  obtain ⟨ms3, hms3⟩ : ∃ y, (ms.filter fun x => !q1C b.st t x.w) = y := ⟨_, rfl⟩
  rw [hms3] at HRr
  have hset : ms3.map MW.w = q06 b.st t := by
   rw [← hms3]
   unfold q06
   rw [← HMw.out, List.filter_map]
   rfl
  have hl3 : ms3.length ≤ 330 := by rw [← hms3]; exact Nat.le_trans (List.length_filter_le ..) (by omega)
  have hin3 : ∀ x ∈ ms3, x ∈ ms := fun x hx => by rw [← hms3] at hx; exact (List.mem_filter.1 hx).1
  have HSet := qh hset
  have HIn3 := qh hin3
  clear hms3 hset hin3
  unfold ptrS at HRr
  go_wp2_with fail
  refine HRr.out.mono ?_
  rintro e w3 ⟨A3, c3, rfl, ho3, htn⟩
  obtain ⟨ρ1, P1, hraw1, hre1, hq1, hst1, hsix⟩ := htn.reach
  have ht1 := q5J HT.out (q2m L b.st t) rfl
  have htx := hraw1.txs _ ht1
  have hqe : (P1 (q2m L b.st t).id).q = (P t.id).q := hq1 t.id
  have z0 : ∀ W : World, Below w3.heap.size w3 W → W.cell? ⟨(P t.id).q, 0, none⟩ = some (.int .u64 (t.began : Nat)) := fun W hb => by
   have := ((hraw1.below hb).txs _ ht1).began_
   rw [hqe] at this
   exact this
  have z1 : ∀ W : World, Below w3.heap.size w3 W → W.cell? ⟨(P t.id).q, 1, none⟩ = some (.int .i64 (t.start : Nat)) := fun W hb => by
   have := ((hraw1.below hb).txs _ ht1).start_
   rw [hqe] at this
   exact this
  have hsp := htx.marks
  obtain ⟨⟨Ar, cr⟩, har⟩ : ∃ y, ((P1 (q2m L b.st t).id).A, (P1 (q2m L b.st t).id).c) = y := ⟨_, rfl⟩
  injection har with harA harc
  have z2 : ∀ W : World, Below w3.heap.size w3 W → W.cell? ⟨(P t.id).q, 2, none⟩ = some (.slice Ar (q1y (FT L) b.st t).length cr) := fun W hb => by
   have := ((hraw1.below hb).txs _ ht1).marks_
   rw [hqe, harA, harc] at this
   exact this
  rw [harA, harc] at hsp
  have hsp2 : SpS w3 (datR ρ1) Ar cr (q1y (FT L) b.st t) := hsp
  have hlow : lowT (setT b (q2m L b.st t)) = lowT b := qdy _ fun x hx e => by rw [q7L HOk.out.ids x hx t HT.out e]; rfl
  have HLow := qh hlow
  obtain ⟨rd, hrd⟩ : ∃ y, q1y (FT L) b.st t = y := ⟨_, rfl⟩
  obtain ⟨wr, hwr⟩ : ∃ y, q1F (FT L) (q06 b.st t) = y := ⟨_, rfl⟩
  have hwe : fitI L.marks (q0a (ms3.map fun x => q0j x.w.key)) = wr := by
   rw [← hwr, q7v, ← HSet.out, List.map_map]
   rfl
  have hmdat : ∀ x ∈ ms3, ByS w3 (datR ρ1) x.A x.c x.w.dat ∧ q2q x.w := fun x hx => by
   have h1 := HIn3.out x hx
   rw [← HMs.out] at h1
   obtain ⟨y, hy, rfl⟩ := List.mem_map.1 h1
   exact ⟨(HTx.out y hy).keep (hst1.dat (by omega)), HWs.out y hy⟩
  rw [hrd] at z2 hsp2
  obtain ⟨A3', c3', e3, k31, k32, k33, hrow3⟩ := ho3.form
  injection e3 with e3A _ e3c
  subst e3A e3c
  have HK3 := qh (show ms3.length ≤ c3 ∧ c3 ≤ maxLen ∧ (A3 = none → c3 = 0) ∧ RowG q0l w3 w.heap.size w3.heap.size A3 ms3 from ⟨k31, k32, k33, hrow3⟩)
  have HPt : Hid (∀ W : World, Below w3.heap.size w3 W → Calls Tryz.prog 134 #[.slice A3 ms3.length c3] W fun r w' => ∃ A c, r = .returned (.slice A (ms3.map fun x => q0j x.w.key).length c) ∧ ChI w' w'.heap.size A c (ms3.map fun x => q0j x.w.key) ∧ Below w3.heap.size w3 w' ∧ Below W.heap.size W w') :=
   qh fun W hb => (q9W ms3 A3 c3 W (by omega) ((hrow3.below hb (Nat.le_refl _)).wide (Nat.zero_le _) hb.size) fun x hx => HMk.out x (HIn3.out x hx)).mono fun _ _ ⟨v, e, ho, hbb⟩ => by
    obtain ⟨A, c, rfl, q⟩ := ho.chI
    exact ⟨A, c, e, q, hb.trans (hbb.mono hb.size), hbb⟩
  have HFt : Hid (∀ (W : World) (A : Option Addr) (c : Nat), Below w3.heap.size w3 W → ChI W W.heap.size A c (ms3.map fun x => q0j x.w.key) → Calls Tryz.prog 121 #[.slice A (ms3.map fun x => q0j x.w.key).length c, .int .i64 L.marks] W fun r w' => ∃ A' c', r = .returned (.slice A' wr.length c') ∧ ChF w' w3.heap.size w'.heap.size A' c' wr ∧ Below w3.heap.size w3 w' ∧ Below W.heap.size W w') :=
   qh fun W A c hb hc => by
    have q := q3x (ms3.map fun x => q0j x.w.key) A c L.marks W (by unfold okI; rw [List.length_map]; omega) (by omega) (by omega) hc
    rw [hwe] at q
    exact q.mono fun _ _ ⟨A', c', e, h1, h2⟩ => ⟨A', c', e, h1.lower hb.size, hb.trans (h2.mono hb.size), h2⟩
  have HTail : Hid (∀ (W W' : World) (n : Nat) (A : Option Addr) (c : Nat), Below w3.heap.size w3 W → w3.heap.size ≤ n → W.heap[n]? = some (.cells #[.int .u64 0, .int .u64 0, .int .u64 0, .int .u64 0, .slice none 0 0, .slice none 0 0] 86 (0, 0)) → ChF W w3.heap.size W.heap.size A c wr →
    set6 W n (.int .u64 0) (.int .u64 0) (.int .u64 (t.began : Nat)) (.int .u64 0) (.slice Ar rd.length cr) (.slice A wr.length c) = W' → ∃ ρ', q1r w o p ρ L (setT b (q2m L b.st t)) ps B P1 rv hv W' ρ' ⟨⟨0, 0, t.began, 0, rd, wr⟩, Ar, cr, A, c⟩ n ∧ (∀ k, k < w3.heap.size → ρ' k = ρ1 k) ∧ Below w3.heap.size w3 W') :=
   qh fun W W' n A c hb hn hx hc e => by
    obtain ⟨ρ', q1, q2⟩ := hraw1.recAt hre1 hre1.1.size hb hn hx hc hsp2 HTb.out
    rw [e] at q1
    exact ⟨ρ', q1, q2, by rw [← e]; exact Below.set6 hb hn⟩
  have hrl : rd.length ≤ 1000 := by
   have h1 := q7h L b.st t t.ws.length
   rw [q7g] at h1
   rw [← hrd]
   simp only at h1
   omega
  have hwl3 : wr.length ≤ 1000 := by
   have h1 := q3j (n := L.marks) (q0a (ms3.map fun x => q0j x.w.key))
   have h2 := q1u (ms3.map fun x => q0j x.w.key)
   rw [List.length_map] at h2
   rw [← hwe]
   omega
  have HLn := qh (show rd.length ≤ 1000 ∧ wr.length ≤ 1000 from ⟨hrl, hwl3⟩)
  have HSix := qh hsix
  clear hrl hwl3
  have HMd := qh hmdat
  have HQ1 := qh hq1
  have HZ1 := qh z1
  have HRd0 := qh hrd
  have HWr0 := qh hwr
  have HS3 := qh (show w.heap.size ≤ w3.heap.size from hre1.1.size)
  obtain ⟨S, hS1, hS2, hS3⟩ : ∃ S : World → Prop, (∀ W : World, Below w3.heap.size w3 W → S W) ∧ (∀ (W : World) (n : Nat) (v0 v1 v2 v3 v4 v5 : Value), Below w3.heap.size w3 W → w3.heap.size ≤ n → S (set6 W n v0 v1 v2 v3 v4 v5)) ∧ ∀ W : World, S W → W.cell? ⟨(P t.id).q, 0, none⟩ = some (.int .u64 (t.began : Nat)) ∧ W.cell? ⟨(P t.id).q, 2, none⟩ = some (.slice Ar rd.length cr) ∧ W.cell? ⟨p, 3, none⟩ = some (.int .i64 L.marks) :=
   ⟨fun W => Below w3.heap.size w3 W, fun _ hb => hb, fun W n v0 v1 v2 v3 v4 v5 hb hn => Below.set6 hb hn, fun W hb => ⟨z0 W hb, z2 W hb, (hraw1.below hb).marksL⟩⟩
  have HKp := qh hS1
  have HKs := qh hS2
  have HRd := qh hS3
  clear hS1 hS2 hS3 z0 z1 z2 hsp hsp2 hlow hrd hwr hwe hmdat hrow3 k31 k32 k33 ho3 htn hraw1 hre1 hq1 hst1 hsix ht1 htx hqe harA harc HRr HO2
  generalize (ms3.map fun x => q0j x.w.key) = pl at *
  go_upto_region 5 with fail
  obtain ⟨s3, hs3⟩ : ∃ s, s = w3.heap.size := ⟨_, rfl⟩
  have HS3e := qh hs3
  clear hs3
  refine qc6 (f := ?_) (R := fun n A5 c5 w6 => ∃ wz : World, Below s3 w3 wz ∧ s3 ≤ n ∧ wz.heap[n]? = some (.cells #[.int .u64 0, .int .u64 0, .int .u64 0, .int .u64 0, .slice none 0 0, .slice none 0 0] 86 (0, 0)) ∧ ChF wz s3 wz.heap.size A5 c5 wr ∧ ((((((wz.setCell ⟨n, 0, none⟩ (.int .u64 0)).setCell ⟨n, 1, none⟩ (.int .u64 0)).setCell ⟨n, 2, none⟩ (.int .u64 (t.began : Nat))).setCell ⟨n, 3, none⟩ (.int .u64 0)).setCell ⟨n, 4, none⟩ (.slice Ar rd.length cr)).setCell ⟨n, 5, none⟩ (.slice A5 wr.length c5)) = w6) ?_ (fun n A4 c4 A5 c5 w6 hR => ?_)
  rotate_left
  ·skip
   refine wp_region_held_drew (S := S) (by kernel_rfl) ?_ (fun hGd => ?_)
   ·exact HKp.out _ (Below.refl _ _).drew
   refine tkS (i := 0) (v := ?_) ?_
   (try simp only [Act.put, qA, qB, qC])
   refine tkS (i := 1) (v := ?_) ?_
   (try simp only [Act.put, qA, qB, qC])
   refine tkS (i := 2) (v := ?_) ?_
   (try simp only [Act.put, qA, qB, qC])
   refine tkH (i := 3) (v := ?_) (fun w hSw => ?_) ?_
   rotate_left
   ·obtain ⟨q0, q2, q3⟩ := HRd.out _ hSw; go_simp <;> with_reducible rfl
   (try simp only [Act.put, qA, qB, qC])
   refine tkS (i := 4) (v := ?_) ?_
   (try simp only [Act.put, qA, qB, qC])
   refine tkS (i := 5) (v := ?_) ?_
   (try simp only [Act.put, qA, qB, qC])
   refine tkS (i := 6) (v := ?_) ?_
   (try simp only [Act.put, qA, qB, qC])
   refine tkH (i := 7) (v := ?_) (fun w hSw => ?_) ?_
   rotate_left
   ·obtain ⟨q0, q2, q3⟩ := HRd.out _ hSw; go_simp <;> with_reducible rfl
   (try simp only [Act.put, qA, qB, qC])
   refine tkS (i := 8) (v := ?_) ?_
   (try simp only [Act.put, qA, qB, qC])
   refine tkS (i := 10) (v := ?_) ?_
   (try simp only [Act.put, qA, qB, qC])
   refine tkS (i := 11) (v := ?_) ?_
   (try simp only [Act.put, qA, qB, qC])
   refine tkS (i := 12) (v := ?_) ?_
   (try simp only [Act.put, qA, qB, qC])
   refine tkS (i := 13) (v := ?_) ?_
   (try simp only [Act.put, qA, qB, qC])
   refine tkH (i := 14) (v := ?_) (fun w hSw => ?_) ?_
   rotate_left
   ·obtain ⟨q0, q2, q3⟩ := HRd.out _ hSw; go_simp <;> with_reducible rfl
   (try simp only [Act.put, qA, qB, qC])
   refine q2g (i := 9) (j := 17) (by kernel_rfl) rfl rfl (fun K' hK => ?_) (fun K' hK => ?_)
   ·go_simp
    go_at_call 134; with_reducible refine (HPt.out _ (by first | exact (Below.refl _ _).drew | exact ((Below.refl _ _).alloc (Nat.le_refl _) _).drew)).mono ?_; rintro r w4 ⟨A4, c4, rfl, h4, hb4, hg4⟩
    (first | (refine hK.out _ _ ?_ (fun hG2 => ?_)) | (go_wp2_with fail; refine hK.out _ _ ?_ (fun hG2 => ?_)))
    ·exact HKp.out _ hb4
    clear hK K' hGd
    have hGd := hG2
    clear hG2
    (try simp only [Act.put, qA, qB, qC])
    refine q2g (i := 15) (j := 17) (by kernel_rfl) rfl rfl (fun K' hK => ?_) (fun K' hK => ?_)
    ·go_simp
     go_at_call 121; with_reducible refine (HFt.out _ _ _ (by first | exact hb4 | exact hb4.alloc hb4.size _) (by first | exact h4 | exact h4.below ((Below.refl _ w4).alloc (Nat.le_refl _) _) (Nat.le_refl _) (by simp))).mono ?_; rintro r w5 ⟨A5, c5, rfl, h5, hb5, hg5⟩
     (first | (refine hK.out _ _ ?_ (fun hG2 => ?_)) | (go_wp2_with fail; refine hK.out _ _ ?_ (fun hG2 => ?_)))
     ·exact HKp.out _ hb5
     clear hK K' hGd
     have hGd := hG2
     clear hG2
     (try simp only [Act.put, qA, qB, qC])
     refine tkS (i := 16) (v := ?_) ?_
     (try simp only [Act.put, qA, qB, qC])
     refine stH (i := 17) (fun K' hK => ?_)
     go_simp
     (first | (refine hK.out _ _ ?_ (fun hG2 => ?_)) | (go_wp2_with fail; refine hK.out _ _ ?_ (fun hG2 => ?_)))
     ·exact HKp.out _ (hb5.alloc hb5.size _)
     clear hK K' hGd
     have hGd := hG2
     clear hG2
     (try simp only [Act.put, qA, qB, qC])
     have hbx := heap_alloc_new w5 (.cells #[.int .u64 0, .int .u64 0, .int .u64 0, .int .u64 0, .slice none 0 0, .slice none 0 0] 86)
     have hbW := (hb5.alloc hb5.size (.cells #[.int .u64 0, .int .u64 0, .int .u64 0, .int .u64 0, .slice none 0 0, .slice none 0 0] 86))
     have h5W := (h5.below ((Below.refl _ w5).alloc (Nat.le_refl _) (.cells #[.int .u64 0, .int .u64 0, .int .u64 0, .int .u64 0, .slice none 0 0, .slice none 0 0] 86)) (Nat.le_refl _) (show _ ≤ (w5.alloc (.cells #[.int .u64 0, .int .u64 0, .int .u64 0, .int .u64 0, .slice none 0 0, .slice none 0 0] 86)).heap.size by simp))
     obtain ⟨n, hn⟩ : ∃ n, w5.heap.size = n := ⟨_, rfl⟩
     obtain ⟨wz, hwz⟩ : ∃ y, (w5.alloc (.cells #[.int .u64 0, .int .u64 0, .int .u64 0, .int .u64 0, .slice none 0 0, .slice none 0 0] 86)) = y := ⟨_, rfl⟩
     rw [hwz] at hbx hbW h5W hGd ⊢
     have hnW : w3.heap.size ≤ n := by rw [← hn]; exact hb5.size
     rw [hn] at hbx ⊢
     clear hn hwz h5 hb5 hg5 h4 hb4 hg4
     obtain ⟨a0, a1, a2, a3, a4, a5, q0, q1, q2, q3, q4, q5, g0, g1, g2, g3, g4, g5⟩ := (Box6.of hbx).cells
     refine stH (i := 18) (fun K' hK => ?_)
     go_simp
     (first | (refine hK.out _ _ ?_ (fun hG2 => ?_)) | (go_wp2_with fail; refine hK.out _ _ ?_ (fun hG2 => ?_)))
     ·exact HKs.out wz n _ _ _ _ _ _ hbW hnW
     clear hK K' hGd
     have hGd := hG2
     clear hG2
     (try simp only [Act.put, qA, qB, qC])
     refine wpAnyH_done (by kernel_rfl) ?_ _
     refine q8z ⟨n, A4, c4, A5, c5, ?_, wz, by rw [HS3e.out]; exact hbW, by rw [HS3e.out]; exact hnW, hbx, by rw [HS3e.out]; exact h5W, rfl⟩
     rfl
    ·go_simp
     (first | (refine hK.out _ _ ?_ (fun hG2 => ?_)) | (go_wp2_with fail; refine hK.out _ _ ?_ (fun hG2 => ?_)))
     ·exact HKp.out _ (hb4.alloc hb4.size _)
     clear hK K' hGd
     have hGd := hG2
     clear hG2
     (try simp only [Act.put, qA, qB, qC])
     refine stH (i := 15) (fun K' hK => ?_)
     go_simp
     go_at_call 121; with_reducible refine (HFt.out _ _ _ (by first | exact hb4 | exact hb4.alloc hb4.size _) (by first | exact h4 | exact h4.below ((Below.refl _ w4).alloc (Nat.le_refl _) _) (Nat.le_refl _) (by simp))).mono ?_; rintro r w5 ⟨A5, c5, rfl, h5, hb5, hg5⟩
     (first | (refine hK.out _ _ ?_ (fun hG2 => ?_)) | (go_wp2_with fail; refine hK.out _ _ ?_ (fun hG2 => ?_)))
     ·exact HKp.out _ hb5
     clear hK K' hGd
     have hGd := hG2
     clear hG2
     (try simp only [Act.put, qA, qB, qC])
     refine tkS (i := 16) (v := ?_) ?_
     (try simp only [Act.put, qA, qB, qC])
     have hbx := q01 (heap_alloc_new w4 (.cells #[.int .u64 0, .int .u64 0, .int .u64 0, .int .u64 0, .slice none 0 0, .slice none 0 0] 86)) hg5 (q00 (heap_alloc_new w4 (.cells #[.int .u64 0, .int .u64 0, .int .u64 0, .int .u64 0, .slice none 0 0, .slice none 0 0] 86)))
     have hbW := hb5
     have h5W := h5
     obtain ⟨n, hn⟩ : ∃ n, w4.heap.size = n := ⟨_, rfl⟩
     obtain ⟨wz, hwz⟩ : ∃ y, w5 = y := ⟨_, rfl⟩
     rw [hwz] at hbx hbW h5W hGd ⊢
     have hnW : w3.heap.size ≤ n := by rw [← hn]; exact hb4.size
     rw [hn] at hbx ⊢
     clear hn hwz h5 hb5 hg5 h4 hb4 hg4
     obtain ⟨a0, a1, a2, a3, a4, a5, q0, q1, q2, q3, q4, q5, g0, g1, g2, g3, g4, g5⟩ := (Box6.of hbx).cells
     refine stH (i := 18) (fun K' hK => ?_)
     go_simp
     (first | (refine hK.out _ _ ?_ (fun hG2 => ?_)) | (go_wp2_with fail; refine hK.out _ _ ?_ (fun hG2 => ?_)))
     ·exact HKs.out wz n _ _ _ _ _ _ hbW hnW
     clear hK K' hGd
     have hGd := hG2
     clear hG2
     (try simp only [Act.put, qA, qB, qC])
     refine wpAnyH_done (by kernel_rfl) ?_ _
     refine q8z ⟨n, A4, c4, A5, c5, ?_, wz, by rw [HS3e.out]; exact hbW, by rw [HS3e.out]; exact hnW, hbx, by rw [HS3e.out]; exact h5W, rfl⟩
     rfl
   ·go_simp
    (first | (refine hK.out _ _ ?_ (fun hG2 => ?_)) | (go_wp2_with fail; refine hK.out _ _ ?_ (fun hG2 => ?_)))
    ·exact HKp.out _ ((Below.refl _ _).drew.alloc (Nat.le_refl _) _)
    clear hK K' hGd
    have hGd := hG2
    clear hG2
    (try simp only [Act.put, qA, qB, qC])
    refine stH (i := 9) (fun K' hK => ?_)
    go_simp
    go_at_call 134; with_reducible refine (HPt.out _ (by first | exact (Below.refl _ _).drew | exact ((Below.refl _ _).alloc (Nat.le_refl _) _).drew)).mono ?_; rintro r w4 ⟨A4, c4, rfl, h4, hb4, hg4⟩
    (first | (refine hK.out _ _ ?_ (fun hG2 => ?_)) | (go_wp2_with fail; refine hK.out _ _ ?_ (fun hG2 => ?_)))
    ·exact HKp.out _ hb4
    clear hK K' hGd
    have hGd := hG2
    clear hG2
    (try simp only [Act.put, qA, qB, qC])
    refine stH (i := 15) (fun K' hK => ?_)
    go_simp
    go_at_call 121; with_reducible refine (HFt.out _ _ _ (by first | exact hb4 | exact hb4.alloc hb4.size _) (by first | exact h4 | exact h4.below ((Below.refl _ w4).alloc (Nat.le_refl _) _) (Nat.le_refl _) (by simp))).mono ?_; rintro r w5 ⟨A5, c5, rfl, h5, hb5, hg5⟩
    (first | (refine hK.out _ _ ?_ (fun hG2 => ?_)) | (go_wp2_with fail; refine hK.out _ _ ?_ (fun hG2 => ?_)))
    ·exact HKp.out _ hb5
    clear hK K' hGd
    have hGd := hG2
    clear hG2
    (try simp only [Act.put, qA, qB, qC])
    refine tkS (i := 16) (v := ?_) ?_
    (try simp only [Act.put, qA, qB, qC])
    have hbx := q01 (q01 (w := (w3.alloc (.cells #[.int .u64 0, .int .u64 0, .int .u64 0, .int .u64 0, .slice none 0 0, .slice none 0 0] 86)).drew) (heap_alloc_new w3 _) hg4 (q00 (heap_alloc_new w3 (.cells #[.int .u64 0, .int .u64 0, .int .u64 0, .int .u64 0, .slice none 0 0, .slice none 0 0] 86)))) hg5 (q00 (q01 (w := (w3.alloc (.cells #[.int .u64 0, .int .u64 0, .int .u64 0, .int .u64 0, .slice none 0 0, .slice none 0 0] 86)).drew) (heap_alloc_new w3 _) hg4 (q00 (heap_alloc_new w3 (.cells #[.int .u64 0, .int .u64 0, .int .u64 0, .int .u64 0, .slice none 0 0, .slice none 0 0] 86)))))
    have hbW := hb5
    have h5W := h5
    obtain ⟨n, hn⟩ : ∃ n, w3.heap.size = n := ⟨_, rfl⟩
    obtain ⟨wz, hwz⟩ : ∃ y, w5 = y := ⟨_, rfl⟩
    rw [hwz] at hbx hbW h5W hGd ⊢
    have hnW : w3.heap.size ≤ n := by rw [← hn]; exact (Nat.le_refl _)
    rw [hn] at hbx ⊢
    clear hn hwz h5 hb5 hg5 h4 hb4 hg4
    obtain ⟨a0, a1, a2, a3, a4, a5, q0, q1, q2, q3, q4, q5, g0, g1, g2, g3, g4, g5⟩ := (Box6.of hbx).cells
    refine stH (i := 18) (fun K' hK => ?_)
    go_simp
    (first | (refine hK.out _ _ ?_ (fun hG2 => ?_)) | (go_wp2_with fail; refine hK.out _ _ ?_ (fun hG2 => ?_)))
    ·exact HKs.out wz n _ _ _ _ _ _ hbW hnW
    clear hK K' hGd
    have hGd := hG2
    clear hG2
    (try simp only [Act.put, qA, qB, qC])
    refine wpAnyH_done (by kernel_rfl) ?_ _
    refine q8z ⟨n, A4, c4, A5, c5, ?_, wz, by rw [HS3e.out]; exact hbW, by rw [HS3e.out]; exact hnW, hbx, by rw [HS3e.out]; exact h5W, rfl⟩
    rfl
  ·obtain ⟨wz, hbW, hnW, hbx, h5W, hw6⟩ := hR
   rw [HS3e.out] at hbW hnW h5W
   clear HS3e
   obtain ⟨ρ3, hrec, hold, hb6⟩ := HTail.out wz w6 n A5 c5 hbW hnW hbx h5W hw6
   clear hw6 hbx h5W hbW hnW HTail HFt HPt HKp HKs HRd
   have HRec := qh hrec
   have HOld := qh hold
   have HB6 := qh hb6
   clear hrec hold hb6
   obtain ⟨ak, has⟩ : ∃ y, askT (FT L) b.st t = y := ⟨_, rfl⟩
   have hae : (⟨0, 0, t.began, 0, rd, wr⟩ : RecS) = ak := by rw [← has, ← HRd0.out, ← HWr0.out]; rfl
   have HAs := qh has
   have HJ : Hid (∀ W : World, Below w6.heap.size w6 W → Calls Tryz.prog 135 #[rv, .agg #[.int .u64 0, .int .u64 0, .int .u64 (t.began : Nat), .int .u64 0, .slice Ar rd.length cr, .slice A5 wr.length c5]] W fun r w' => r = .returned (q3U (q1M b.recs ak)) ∧ Below w6.heap.size w6 w') := qh fun W hb => by
    rw [← hae]
    exact HRec.out.judge HRs.out HLn.out.1 HLn.out.2 hb
   obtain ⟨S6, hS61, hS62⟩ : ∃ S : World → Prop, (∀ W : World, Below w6.heap.size w6 W → S W) ∧ ∀ W : World, S W → W.cell? ⟨p, 11, none⟩ = some rv ∧ W.cell? ⟨n, 0, none⟩ = some (.int .u64 0) ∧ W.cell? ⟨n, 1, none⟩ = some (.int .u64 0) ∧ W.cell? ⟨n, 2, none⟩ = some (.int .u64 (t.began : Nat)) ∧ W.cell? ⟨n, 3, none⟩ = some (.int .u64 0) ∧ W.cell? ⟨n, 4, none⟩ = some (.slice Ar rd.length cr) ∧ W.cell? ⟨n, 5, none⟩ = some (.slice A5 wr.length c5) :=
    ⟨fun W => Below w6.heap.size w6 W, fun _ hb => hb, fun W hb => HRec.out.reads hb⟩
   have HKp6 := qh hS61
   have HRd6 := qh hS62
   clear hS61 hS62 hae has
   cases hj : q1M b.recs ak with
   | none =>
    have HI := qh (show q1K L b t = (setT b (q2m L b.st t), errT 101) by unfold q1K; rw [if_neg (by rw [HCl0.out]; simp), HAs.out, hj])
    rw [hj] at HJ
    unfold q3U at HJ
    simp only at HJ
    clear hj
    go_upto_region 6 with fail
    refine wp_region_held_drew (S := S6) (by kernel_rfl) ?_ (fun hGd => ?_)
    ·exact HKp6.out _ (Below.refl _ _).drew
    refine tkS (i := 0) (v := ?_) ?_
    (try simp only [Act.put, qA, qB, qC])
    refine tkS (i := 1) (v := ?_) ?_
    (try simp only [Act.put, qA, qB, qC])
    refine tkS (i := 2) (v := ?_) ?_
    (try simp only [Act.put, qA, qB, qC])
    refine tkH (i := 3) (v := ?_) (fun w hSw => ?_) ?_
    rotate_left
    ·obtain ⟨y11, y0, y1, y2, y3, y4, y5⟩ := HRd6.out _ hSw; go_simp <;> with_reducible rfl
    (try simp only [Act.put, qA, qB, qC])
    refine tkH (i := 4) (v := ?_) (fun w hSw => ?_) ?_
    rotate_left
    ·obtain ⟨y11, y0, y1, y2, y3, y4, y5⟩ := HRd6.out _ hSw; go_simp <;> with_reducible rfl
    (try simp only [Act.put, qA, qB, qC])
    refine stH (i := 5) (fun K' hK => ?_)
    go_simp
    go_at_call 135; with_reducible refine (HJ.out _ (Below.refl _ _).drew).mono ?_; rintro r w7 ⟨rfl, hb7⟩
    (first | (refine hK.out _ _ ?_ (fun hG2 => ?_)) | (go_wp2_with fail; refine hK.out _ _ ?_ (fun hG2 => ?_)))
    ·exact HKp6.out _ hb7
    clear hK K' hGd
    have hGd := hG2
    clear hG2
    (try simp only [Act.put, qA, qB, qC])
    refine tkS (i := 6) (v := ?_) ?_
    (try simp only [Act.put, qA, qB, qC])
    refine tkS (i := 7) (v := ?_) ?_
    (try simp only [Act.put, qA, qB, qC])
    refine tkS (i := 8) (v := ?_) ?_
    (try simp only [Act.put, qA, qB, qC])
    refine tkS (i := 9) (v := ?_) ?_
    (try simp only [Act.put, qA, qB, qC])
    refine tkS (i := 10) (v := ?_) ?_
    (try simp only [Act.put, qA, qB, qC])
    refine wpAnyH_done (by kernel_rfl) ?_ _
    go_wp2_with fail
    go_ret2
    rw [HI.out]
    exact ⟨rfl, ρ3, P1, rv, hv, (HRec.out.below hb7).raw, (HRec.out.below hb7).reach, fun i => HQ1.out i⟩
   | some out =>
    have hout : out < 18446744073709551616 := qf6 hj HRec.out.raw.recs.firsts
    have HOut := qh hout
    have HJr := qh (show q1M b.recs (askT (FT L) b.st t) = some out by rw [HAs.out]; exact hj)
    rw [hj] at HJ
    unfold q3U at HJ
    simp only at HJ
    clear hj hout
    go_upto_region 6 with fail
    refine wp_region_held_drew (S := S6) (by kernel_rfl) ?_ (fun hGd => ?_)
    ·exact HKp6.out _ (Below.refl _ _).drew
    refine tkS (i := 0) (v := ?_) ?_
    (try simp only [Act.put, qA, qB, qC])
    refine tkS (i := 1) (v := ?_) ?_
    (try simp only [Act.put, qA, qB, qC])
    refine tkS (i := 2) (v := ?_) ?_
    (try simp only [Act.put, qA, qB, qC])
    refine tkH (i := 3) (v := ?_) (fun w hSw => ?_) ?_
    rotate_left
    ·obtain ⟨y11, y0, y1, y2, y3, y4, y5⟩ := HRd6.out _ hSw; go_simp <;> with_reducible rfl
    (try simp only [Act.put, qA, qB, qC])
    refine tkH (i := 4) (v := ?_) (fun w hSw => ?_) ?_
    rotate_left
    ·obtain ⟨y11, y0, y1, y2, y3, y4, y5⟩ := HRd6.out _ hSw; go_simp <;> with_reducible rfl
    (try simp only [Act.put, qA, qB, qC])
    refine stH (i := 5) (fun K' hK => ?_)
    go_simp
    go_at_call 135; with_reducible refine (HJ.out _ (Below.refl _ _).drew).mono ?_; rintro r w7 ⟨rfl, hb7⟩
    (first | (refine hK.out _ _ ?_ (fun hG2 => ?_)) | (go_wp2_with fail; refine hK.out _ _ ?_ (fun hG2 => ?_)))
    ·exact HKp6.out _ hb7
    clear hK K' hGd
    have hGd := hG2
    clear hG2
    (try simp only [Act.put, qA, qB, qC])
    refine tkS (i := 6) (v := ?_) ?_
    (try simp only [Act.put, qA, qB, qC])
    refine tkS (i := 7) (v := ?_) ?_
    (try simp only [Act.put, qA, qB, qC])
    refine tkS (i := 8) (v := ?_) ?_
    (try simp only [Act.put, qA, qB, qC])
    refine tkS (i := 9) (v := ?_) ?_
    (try simp only [Act.put, qA, qB, qC])
    refine tkS (i := 10) (v := ?_) ?_
    (try simp only [Act.put, qA, qB, qC])
    refine wpAnyH_done (by kernel_rfl) ?_ _
    have HRec7 := qh (HRec.out.below hb7)
    have HB7 := qh (HB6.out.trans (hb7.mono HB6.out.size))
    clear hb7 hGd HJ HKp6 HRd6 HRec
    obtain ⟨⟨cs, ca, ce⟩, hC⟩ : ∃ y, q09 L.s b.st (q06 b.st t) (lowT b) = y := ⟨_, rfl⟩
    have HLw : Hid (∀ W : World, Below w7.heap.size w7 W → Calls Tryz.prog 21 #[.pointer (some ⟨p, 0, none⟩)] W fun e w' => e = .returned (.int .u64 (lowT b : Nat)) ∧ Below w7.heap.size w7 w') := qh fun W hb => by
     have q := q4x (HRec7.out.raw.below hb) (q3T HOk.out.ids (q2m L b.st t))
     rw [HLow.out] at q
     exact q.mono fun _ _ ⟨e, h1⟩ => ⟨e, hb.trans (h1.mono hb.size)⟩
    have HCm : Hid (∀ W : World, Below w7.heap.size w7 W → Calls Tryz.prog 136 #[.pointer (some ⟨ps, 0, none⟩), .slice A3 ms3.length c3, .int .u64 (lowT b : Nat)] W fun r w' => r = .returned (.tuple #[.int .u64 (ca : Nat), .int .i64 ce]) ∧
      ∃ ρ', q1r w o p ρ L ⟨cs, (setT b (q2m L b.st t)).live, b.recs, b.hist, b.last, b.event⟩ ps B P1 rv hv w' ρ' ⟨⟨0, 0, t.began, 0, rd, wr⟩, Ar, cr, A5, c5⟩ n) := qh fun W hb => by
     have q := HRec7.out.commits (low := lowT b) HSet.out hl3 hb ⟨HK3.out.1, HK3.out.2.1, HK3.out.2.2.1, HK3.out.2.2.2.below HB7.out (Nat.le_refl _)⟩ HB7.out.size (fun k g1 g2 e3 => by
       rw [HOld.out k g2] at e3
       have e4 := HSix.out k (by omega)
       have := (HRaw.out.lo k (by omega)).2
       omega) (fun y hy => ⟨(HMd.out y hy).1.keep fun g hg hl => ⟨HB7.out.block g hl, by unfold datR; rw [HOld.out g hl]; exact hg⟩, (HMd.out y hy).2⟩)
     have hst : (setT b (q2m L b.st t)).st = b.st := rfl
     rw [hst, hC] at q
     exact q
    have HCt := qh (fun (h : ce = 0) => show ca = cs.time by
     have q := q9F (L := L.s) (st := b.st) (l := q06 b.st t) (low := lowT b)
     rw [hC] at q
     exact q h)
    have HIe := qh (fun (h : ce ≠ 0) => show q1K L b t = (⟨cs, (setT b (q2m L b.st t)).live, b.recs, b.hist, b.last, b.event⟩, errT ce) by
     unfold q1K
     rw [if_neg (by rw [HCl0.out]; simp), HJr.out]
     simp only
     rw [hC]
     exact if_pos h)
    have HIo := qh (fun (h : ce = 0) => show q1K L b t = (⟨cs, (setT b (q2m L b.st t)).live, b.recs ++ [⟨max ca 1, max ca 1, t.began, out, rd, wr⟩], b.hist ++ [⟨t.id, t.began, ca, t.start, b.event + 1, rd, wr⟩], b.last, b.event + 1⟩, ⟨ca, 0, [], false, []⟩) by
     unfold q1K
     rw [if_neg (by rw [HCl0.out]; simp), HJr.out]
     simp only
     rw [hC, HRd0.out, HWr0.out]
     exact if_neg (by simpa using h))
    obtain ⟨S9, hS91, hS92, hS93⟩ : ∃ S : World → Prop, (∀ W : World, Below w7.heap.size w7 W → S W) ∧ (∀ (W : World) (ρ' : q0o), q1r w o p ρ L ⟨cs, (setT b (q2m L b.st t)).live, b.recs, b.hist, b.last, b.event⟩ ps B P1 rv hv W ρ' ⟨⟨0, 0, t.began, 0, rd, wr⟩, Ar, cr, A5, c5⟩ n → S W) ∧ ∀ W : World, S W → W.cell? ⟨p, 7, none⟩ = some (.pointer (some ⟨ps, 0, none⟩)) :=
     ⟨fun W => W.cell? ⟨p, 7, none⟩ = some (.pointer (some ⟨ps, 0, none⟩)), fun W hb => (HRec7.out.raw.below hb).store_, fun W ρ' h => h.raw.store_, fun _ h => h⟩
    have HKp9 := qh hS91
    have HKc9 := qh hS92
    have HRd9 := qh hS93
    clear hC hS91 hS92 hS93
    go_upto_region 9 with fail
    refine wp_region_held_drew (S := S9) (by kernel_rfl) ?_ (fun hGd => ?_)
    ·exact HKp9.out _ (Below.refl _ _).drew
    refine tkS (i := 0) (v := ?_) ?_
    (try simp only [Act.put, qA, qB, qC])
    refine tkS (i := 1) (v := ?_) ?_
    (try simp only [Act.put, qA, qB, qC])
    refine tkS (i := 2) (v := ?_) ?_
    (try simp only [Act.put, qA, qB, qC])
    refine tkH (i := 3) (v := ?_) (fun w hSw => ?_) ?_
    rotate_left
    ·have y7 := HRd9.out _ hSw; go_simp <;> with_reducible rfl
    (try simp only [Act.put, qA, qB, qC])
    refine tkS (i := 4) (v := ?_) ?_
    (try simp only [Act.put, qA, qB, qC])
    refine tkS (i := 5) (v := ?_) ?_
    (try simp only [Act.put, qA, qB, qC])
    refine stH (i := 6) (fun K' hK => ?_)
    go_simp
    go_at_call 21; with_reducible refine (HLw.out _ (Below.refl _ _).drew).mono ?_; rintro r w8 ⟨rfl, hb8⟩
    (first | (refine hK.out _ _ ?_ (fun hG2 => ?_)) | (go_wp2_with fail; refine hK.out _ _ ?_ (fun hG2 => ?_)))
    ·exact HKp9.out _ hb8
    clear hK K' hGd
    have hGd := hG2
    clear hG2
    (try simp only [Act.put, qA, qB, qC])
    refine stH (i := 7) (fun K' hK => ?_)
    go_simp
    go_at_call 136; with_reducible refine (HCm.out _ hb8).mono ?_; rintro r w9 ⟨rfl, ρ4, hrec9⟩
    (first | (refine hK.out _ _ ?_ (fun hG2 => ?_)) | (go_wp2_with fail; refine hK.out _ _ ?_ (fun hG2 => ?_)))
    ·exact HKc9.out _ _ hrec9
    clear hK K' hGd
    have hGd := hG2
    clear hG2
    (try simp only [Act.put, qA, qB, qC])
    refine tkS (i := 8) (v := ?_) ?_
    (try simp only [Act.put, qA, qB, qC])
    refine tkS (i := 9) (v := ?_) ?_
    (try simp only [Act.put, qA, qB, qC])
    refine tkS (i := 10) (v := ?_) ?_
    (try simp only [Act.put, qA, qB, qC])
    refine tkS (i := 11) (v := ?_) ?_
    (try simp only [Act.put, qA, qB, qC])
    refine tkS (i := 12) (v := ?_) ?_
    (try simp only [Act.put, qA, qB, qC])
    refine wpAnyH_done (by kernel_rfl) ?_ _
    have HRec9 := qh hrec9
    clear hrec9 hb8 hGd HLw HCm HKp9 HKc9 HRd9
    by_cases hce : ce = 0
    ·subst hce
     have HIn := qh (HIo.out rfl)
     have hca : ca < 18446744073709551616 := by rw [HCt.out rfl]; exact HRec9.out.raw.time_lt
     clear HIe HIo HCt
     have c10 := HRec9.out.raw.events_
     have f10 := HRec9.out.raw.frozen 10
     have hev := HEv.out.1
     have e10 : IntKind.i64.wrap ((b.event : Int) + 1) = (b.event : Int) + 1 := IntWalk.i64_in _ ⟨by omega, by omega⟩
     simp only at c10
     obtain ⟨wa, hwa⟩ : ∃ y, w9.setCell ⟨p, 10, none⟩ (.int .i64 ((b.event : Int) + 1)) = y := ⟨_, rfl⟩
     have hreca := HRec9.out.event
     simp only at hreca
     have e1 : ((b.event + 1 : Nat) : Int) = (b.event : Int) + 1 := by omega
     rw [e1, hwa] at hreca
     have HReca := qh hreca
     have HWa := qh hwa
     clear hreca hwa e1
     go_upto_region 13 with fail
     rw [HWa.out]
     clear HWa c10 f10 e10 HRec9
     obtain ⟨_, y0, y1, _, y3, _, _⟩ := HReca.out.reads (Below.refl _ _)
     have f0 := q02 HReca.out.box 0
     have f1 := q02 HReca.out.box 1
     have f3 := q02 HReca.out.box 3
     obtain ⟨M, hM⟩ : ∃ M, max ca 1 = M := ⟨_, rfl⟩
     have hmx : max (ca : Int) 1 = (M : Int) := by omega
     have hMl : M < 18446744073709551616 := by omega
     have hrecb := HReca.out.sets hMl hMl HOut.out
     obtain ⟨wb, hwb⟩ : ∃ y, ((wa.setCell ⟨n, 0, none⟩ (.int .u64 (M : Nat))).setCell ⟨n, 1, none⟩ (.int .u64 (M : Nat))).setCell ⟨n, 3, none⟩ (.int .u64 (out : Nat)) = y := ⟨_, rfl⟩
     rw [hwb] at hrecb
     have HRecb := qh hrecb
     have HWb := qh hwb
     have HMx := qh hM
     clear hrecb hwb hM HReca
     go_upto_region 14 with fail
     rw [HWb.out]
     clear HWb y0 y1 y3 f0 f1 f3 hmx
     obtain ⟨msr, hmsr, hownr, hokr, hroler⟩ := HRecb.out.raw.recs
     have hmsr2 : msr.map MR.r = b.recs := hmsr
     have hlr : msr.length ≤ 1000 := by rw [← List.length_map (f := MR.r), hmsr2]; exact HRs.out.1
     have HOwr := qh hownr
     have HP14 : Hid (∀ (wy w6 : World) (v : Value), Below wb.heap.size wb wy → OwnG 86 6 q0d w6 0 v (msr ++ [(⟨⟨M, M, t.began, out, rd, wr⟩, Ar, cr, A5, c5⟩ : MR)]) → wy.grownBy w6 rv.ownBlock → (v.ownBlock = rv.ownBlock ∨ v.ownBlock = some wy.heap.size) →
       ∃ ρ', q1r w o p ρ L ⟨cs, (setT b (q2m L b.st t)).live, b.recs ++ [⟨M, M, t.began, out, rd, wr⟩], b.hist, b.last, b.event + 1⟩ ps B P1 v hv (w6.setCell ⟨p, 11, none⟩ v) ρ' (⟨⟨M, M, t.began, out, rd, wr⟩, Ar, cr, A5, c5⟩ : MR) n) := qh fun wy w6 v hb ho hg hat => HRecb.out.pushRec hb hmsr hokr hroler ho hg hat (fun g hg => (hownr.lt g hg).2)
     have HG14 : Hid (∀ wy w6 : World, Below wb.heap.size wb wy → wy.grownBy w6 rv.ownBlock → w6.heap[n]? = wb.heap[n]? ∧ w6.heap[p]? = wb.heap[p]? ∧ n ≠ p) := qh fun wy w6 hb hg => HRecb.out.grows hb (r := 4) (by omega) (by omega) hroler hg
     have HC14 : Hid (∀ W : World, W.heap[p]? = wb.heap[p]? → W.cell? ⟨p, 11, none⟩ = some rv ∧ W.frozen? ⟨p, 11, none⟩ = false) := qh fun W hp => ⟨cell_of_row W p 11 _ _ _ (hp.trans HRecb.out.raw.box), q02 (hp.trans HRecb.out.raw.box) 11⟩
     obtain ⟨S14, hS141, hS142⟩ : ∃ S : World → Prop, (∀ W : World, W.heap[n]? = wb.heap[n]? → S W) ∧ ∀ W : World, S W → W.cell? ⟨n, 0, none⟩ = some (.int .u64 (M : Nat)) ∧ W.cell? ⟨n, 1, none⟩ = some (.int .u64 (M : Nat)) ∧ W.cell? ⟨n, 2, none⟩ = some (.int .u64 (t.began : Nat)) ∧ W.cell? ⟨n, 3, none⟩ = some (.int .u64 (out : Nat)) ∧ W.cell? ⟨n, 4, none⟩ = some (.slice Ar rd.length cr) ∧ W.cell? ⟨n, 5, none⟩ = some (.slice A5 wr.length c5) := by
      refine ⟨fun W => W.heap[n]? = wb.heap[n]?, fun _ h => h, fun W hn => ?_⟩
      have hx := hn.trans HRecb.out.box
      refine ⟨?_, ?_, ?_, ?_, ?_, ?_⟩ <;> rw [cell_of_row W n _ _ _ _ hx] <;> rfl
     have HK14 := qh hS141
     have HR14 := qh hS142
     have hby0 : Below wb.heap.size wb (wb.alloc (.cells #[.int .u64 (M : Nat), .int .u64 (M : Nat), .int .u64 (t.began : Nat), .int .u64 (out : Nat), .slice Ar rd.length cr, .slice A5 wr.length c5] 86)).drew := ((Below.refl _ _).alloc (Nat.le_refl _) _).drew
     have HBy := qh hby0
     have haln := hby0.block n (q00 HRecb.out.box)
     have halp := hby0.block p (q00 HRecb.out.raw.box)
     have HAn := qh haln
     have y11 := (HC14.out wb rfl).1
     have y11a := (HC14.out wb.drew rfl).1
     have y11b := (HC14.out _ halp).1
     clear hmsr hmsr2 hownr hokr hroler hS141 hS142 hby0 haln halp
     have HY := qh (And.intro y11 (And.intro y11a y11b))
     clear y11 y11a y11b
     refine qc5 (f := ?_) (R := fun A6 n6 c6 wc => ∃ ρ5, q1r w o p ρ L ⟨cs, (setT b (q2m L b.st t)).live, b.recs ++ [⟨M, M, t.began, out, rd, wr⟩], b.hist, b.last, b.event + 1⟩ ps B P1 (.slice A6 n6 c6) hv wc ρ5 (⟨⟨M, M, t.began, out, rd, wr⟩, Ar, cr, A5, c5⟩ : MR) n) ?_ (fun A6 n6 c6 wc hR => ?_)
     rotate_left
     ·obtain ⟨y11, y11a, y11b⟩ := HY.out
      refine wp_region_held_drew (S := S14) (by kernel_rfl) ?_ (fun hGd => ?_)
      ·exact HK14.out _ rfl
      refine tkS (i := 0) (v := ?_) ?_
      (try simp only [Act.put, qA, qB, qC])
      refine tkS (i := 1) (v := ?_) ?_
      (try simp only [Act.put, qA, qB, qC])
      refine tkS (i := 2) (v := ?_) ?_
      (try simp only [Act.put, qA, qB, qC])
      refine tkS (i := 3) (v := ?_) ?_
      (try simp only [Act.put, qA, qB, qC])
      refine tkH (i := 5) (v := ?_) (fun w hSw => ?_) ?_
      rotate_left
      ·obtain ⟨x0, x1, x2, x3, x4, x5⟩ := HR14.out _ hSw; go_simp <;> with_reducible rfl
      (try simp only [Act.put, qA, qB, qC])
      refine q2g (i := 4) (j := 6) (by kernel_rfl) rfl rfl (fun K' hK => ?_) (fun K' hK => ?_)
      ·go_simp
       (first | (refine hK.out _ _ ?_ (fun hG2 => ?_)) | (go_wp2_with fail; refine hK.out _ _ ?_ (fun hG2 => ?_)))
       ·exact HK14.out _ (by first | rfl | exact HAn.out)
       clear hK K' hGd
       have hGd := hG2
       clear hG2
       (try simp only [Act.put, qA, qB, qC])
       refine stH (i := 6) (fun K' hK => ?_)
       go_simp
       (first | (refine hK.out _ _ ?_ (fun hG2 => ?_)) | (go_wp2_with fail; refine hK.out _ _ ?_ (fun hG2 => ?_)))
       ·exact HK14.out _ HAn.out
       clear hK K' hGd
       have hGd := hG2
       clear hG2
       (try simp only [Act.put, qA, qB, qC])
       clear y11 y11a y11b
       obtain ⟨wy, hwy⟩ : ∃ y, (wb.alloc (.cells #[.int .u64 (M : Nat), .int .u64 (M : Nat), .int .u64 (t.began : Nat), .int .u64 (out : Nat), .slice Ar rd.length cr, .slice A5 wr.length c5] 86)).drew = y := ⟨_, rfl⟩
       have hby := HBy.out
       have hxy : (wb.alloc (.cells #[.int .u64 (M : Nat), .int .u64 (M : Nat), .int .u64 (t.began : Nat), .int .u64 (out : Nat), .slice Ar rd.length cr, .slice A5 wr.length c5] 86)).drew.heap[wb.heap.size]? = _ := heap_alloc_new wb (.cells #[.int .u64 (M : Nat), .int .u64 (M : Nat), .int .u64 (t.began : Nat), .int .u64 (out : Nat), .slice Ar rd.length cr, .slice A5 wr.length c5] 86)
       have hwy2 : wb.drew.alloc (.cells #[.int .u64 (M : Nat), .int .u64 (M : Nat), .int .u64 (t.began : Nat), .int .u64 (out : Nat), .slice Ar rd.length cr, .slice A5 wr.length c5] 86) = wy := hwy
       rw [hwy] at hby hxy
       (first | rw [hwy] at hGd ⊢ | rw [hwy2] at hGd ⊢)
       have hrowy := (RowG.one (cs := q0d) (x := (⟨⟨M, M, t.began, out, rd, wr⟩, Ar, cr, A5, c5⟩ : MR)) hxy).wide (Nat.zero_le _) (q00 hxy)
       clear hwy hwy2
       refine stH (i := 7) (fun K' hK => ?_)
       rw [if_pos (by simp [Region.wanted])]
       refine q1c wy (.tmp 85) (.tmp 87) rfl 0 rv msr rfl (HOwr.out.below hby) 0 wy.heap.size (some ⟨wb.heap.size, 0, none⟩) 1 1 [(⟨⟨M, M, t.began, out, rd, wr⟩, Ar, cr, A5, c5⟩ : MR)] rfl rfl (by simp) hrowy (by simp; omega) (Nat.zero_le _) ?_
       intro v6 w6 ho6 hg6 hat6
       obtain ⟨hgn, hgp, hnp⟩ := HG14.out wy w6 hby hg6
       obtain ⟨A6, c6, hv6, _⟩ := ho6.form
       obtain ⟨n6, hn6⟩ : ∃ m, (msr ++ [(⟨⟨M, M, t.began, out, rd, wr⟩, Ar, cr, A5, c5⟩ : MR)]).length = m := ⟨_, rfl⟩
       rw [hn6] at hv6
       clear hn6
       subst hv6
       (first | (refine hK.out _ _ ?_ (fun hG2 => ?_)) | (go_wp2_with fail; refine hK.out _ _ ?_ (fun hG2 => ?_)))
       ·exact HK14.out _ hgn
       clear hK K' hGd
       have hGd := hG2
       clear hG2
       (try simp only [Act.put, qA, qB, qC])
       refine tkS (i := 8) (v := ?_) ?_
       (try simp only [Act.put, qA, qB, qC])
       refine tkS (i := 9) (v := ?_) ?_
       (try simp only [Act.put, qA, qB, qC])
       obtain ⟨g11, f11⟩ := HC14.out w6 hgp
       refine stH (i := 10) (fun K' hK => ?_)
       go_simp
       (first | (refine hK.out _ _ ?_ (fun hG2 => ?_)) | (go_wp2_with fail; refine hK.out _ _ ?_ (fun hG2 => ?_)))
       ·exact HK14.out _ ((q0b hnp _ _).trans hgn)
       clear hK K' hGd
       have hGd := hG2
       clear hG2
       (try simp only [Act.put, qA, qB, qC])
       refine wpAnyH_done (by kernel_rfl) ?_ _
       obtain ⟨ρ5, hrec5⟩ := HP14.out wy w6 _ hby ho6 hg6 hat6
       refine q8z ⟨A6, n6, c6, ?_, ρ5, hrec5⟩
       rfl
      ·go_simp
       (first | (refine hK.out _ _ ?_ (fun hG2 => ?_)) | (go_wp2_with fail; refine hK.out _ _ ?_ (fun hG2 => ?_)))
       ·exact HK14.out _ HAn.out
       clear hK K' hGd
       have hGd := hG2
       clear hG2
       (try simp only [Act.put, qA, qB, qC])
       refine stH (i := 4) (fun K' hK => ?_)
       go_simp
       (first | (refine hK.out _ _ ?_ (fun hG2 => ?_)) | (go_wp2_with fail; refine hK.out _ _ ?_ (fun hG2 => ?_)))
       ·exact HK14.out _ (by first | rfl | exact HAn.out)
       clear hK K' hGd
       have hGd := hG2
       clear hG2
       (try simp only [Act.put, qA, qB, qC])
       clear y11 y11a y11b
       obtain ⟨wy, hwy⟩ : ∃ y, (wb.alloc (.cells #[.int .u64 (M : Nat), .int .u64 (M : Nat), .int .u64 (t.began : Nat), .int .u64 (out : Nat), .slice Ar rd.length cr, .slice A5 wr.length c5] 86)).drew = y := ⟨_, rfl⟩
       have hby := HBy.out
       have hxy : (wb.alloc (.cells #[.int .u64 (M : Nat), .int .u64 (M : Nat), .int .u64 (t.began : Nat), .int .u64 (out : Nat), .slice Ar rd.length cr, .slice A5 wr.length c5] 86)).drew.heap[wb.heap.size]? = _ := heap_alloc_new wb (.cells #[.int .u64 (M : Nat), .int .u64 (M : Nat), .int .u64 (t.began : Nat), .int .u64 (out : Nat), .slice Ar rd.length cr, .slice A5 wr.length c5] 86)
       have hwy2 : wb.drew.alloc (.cells #[.int .u64 (M : Nat), .int .u64 (M : Nat), .int .u64 (t.began : Nat), .int .u64 (out : Nat), .slice Ar rd.length cr, .slice A5 wr.length c5] 86) = wy := hwy
       rw [hwy] at hby hxy
       (first | rw [hwy] at hGd ⊢ | rw [hwy2] at hGd ⊢)
       have hrowy := (RowG.one (cs := q0d) (x := (⟨⟨M, M, t.began, out, rd, wr⟩, Ar, cr, A5, c5⟩ : MR)) hxy).wide (Nat.zero_le _) (q00 hxy)
       clear hwy hwy2
       refine stH (i := 7) (fun K' hK => ?_)
       rw [if_pos (by simp [Region.wanted])]
       refine q1c wy (.tmp 85) (.tmp 87) rfl 0 rv msr rfl (HOwr.out.below hby) 0 wy.heap.size (some ⟨wb.heap.size, 0, none⟩) 1 1 [(⟨⟨M, M, t.began, out, rd, wr⟩, Ar, cr, A5, c5⟩ : MR)] rfl rfl (by simp) hrowy (by simp; omega) (Nat.zero_le _) ?_
       intro v6 w6 ho6 hg6 hat6
       obtain ⟨hgn, hgp, hnp⟩ := HG14.out wy w6 hby hg6
       obtain ⟨A6, c6, hv6, _⟩ := ho6.form
       obtain ⟨n6, hn6⟩ : ∃ m, (msr ++ [(⟨⟨M, M, t.began, out, rd, wr⟩, Ar, cr, A5, c5⟩ : MR)]).length = m := ⟨_, rfl⟩
       rw [hn6] at hv6
       clear hn6
       subst hv6
       (first | (refine hK.out _ _ ?_ (fun hG2 => ?_)) | (go_wp2_with fail; refine hK.out _ _ ?_ (fun hG2 => ?_)))
       ·exact HK14.out _ hgn
       clear hK K' hGd
       have hGd := hG2
       clear hG2
       (try simp only [Act.put, qA, qB, qC])
       refine tkS (i := 8) (v := ?_) ?_
       (try simp only [Act.put, qA, qB, qC])
       refine tkS (i := 9) (v := ?_) ?_
       (try simp only [Act.put, qA, qB, qC])
       obtain ⟨g11, f11⟩ := HC14.out w6 hgp
       refine stH (i := 10) (fun K' hK => ?_)
       go_simp
       (first | (refine hK.out _ _ ?_ (fun hG2 => ?_)) | (go_wp2_with fail; refine hK.out _ _ ?_ (fun hG2 => ?_)))
       ·exact HK14.out _ ((q0b hnp _ _).trans hgn)
       clear hK K' hGd
       have hGd := hG2
       clear hG2
       (try simp only [Act.put, qA, qB, qC])
       refine wpAnyH_done (by kernel_rfl) ?_ _
       obtain ⟨ρ5, hrec5⟩ := HP14.out wy w6 _ hby ho6 hg6 hat6
       refine q8z ⟨A6, n6, c6, ?_, ρ5, hrec5⟩
       rfl
     ·obtain ⟨ρ5, hrec5⟩ := hR
      have HRecc := qh hrec5
      clear hrec5 HP14 HG14 HC14 HK14 HR14 HBy HAn HOwr HY
      obtain ⟨msd, hmsd, hownd, hokd, hroled⟩ := HRecc.out.raw.hist
      have hmsd2 : msd.map MD.d = b.hist := hmsd
      have hld : msd.length ≤ 1000 := by
       have h1 := qf4 b.hist
       have h2 := HEv.out.2
       rw [← hmsd2, List.length_map] at h1
       rw [← hmsd2] at h2
       omega
      have HOwd := qh hownd
      have ht1 := q5J HT.out (q2m L b.st t) rfl
      have htx := HRecc.out.raw.txs _ ht1
      have hqe : (P1 (q2m L b.st t).id).q = (P t.id).q := HQ1.out t.id
      have hqb := htx.box
      have hqr := htx.rq
      rw [hqe] at hqb hqr
      have hP15 : ∀ (wy w6 : World) (v : Value), Below wc.heap.size wc wy → OwnG 104 7 q0S w6 0 v (msd ++ [(⟨⟨t.id, t.began, ca, t.start, b.event + 1, rd, wr⟩, Ar, cr, A5, c5⟩ : MD)]) → wy.grownBy w6 hv.ownBlock → (v.ownBlock = hv.ownBlock ∨ v.ownBlock = some wy.heap.size) →
        q6U w o p ρ L ⟨cs, (setT b (q2m L b.st t)).live, b.recs ++ [⟨M, M, t.began, out, rd, wr⟩], b.hist ++ [⟨t.id, t.began, ca, t.start, b.event + 1, rd, wr⟩], b.last, b.event + 1⟩ ps B P1 (w6.setCell ⟨p, 12, none⟩ v) := fun wy w6 v hb ho hg hat => HRecc.out.pushHist hb hmsd hokd ⟨HRecc.out.ok.2.1, HRecc.out.ok.2.2⟩ hroled ho hg hat
      have HP15 := qh hP15
      have hG15 : ∀ wy w6 : World, Below wc.heap.size wc wy → wy.grownBy w6 hv.ownBlock → w6.heap[n]? = wc.heap[n]? ∧ w6.heap[p]? = wc.heap[p]? ∧ w6.heap[(P t.id).q]? = wc.heap[(P t.id).q]? ∧ n ≠ p ∧ (P t.id).q ≠ p := fun wy w6 hb hg => by
       have h1 := q1r.growsK hb hroled hg
       have hfr := HRecc.out.free
       have hrp := HRecc.out.raw.rp
       refine ⟨h1 n (q00 HRecc.out.box) (by omega), h1 p (q00 HRecc.out.raw.box) (by omega), h1 _ (q00 hqb) (by omega), fun e => ?_, fun e => ?_⟩
       ·rw [e] at hfr; omega
       ·rw [e] at hqr; omega
      have HG15 := qh hG15
      have HC15 : Hid (∀ W : World, W.heap[p]? = wc.heap[p]? → W.cell? ⟨p, 12, none⟩ = some hv ∧ W.frozen? ⟨p, 12, none⟩ = false) := qh fun W hp => ⟨cell_of_row W p 12 _ _ _ (hp.trans HRecc.out.raw.box), q02 (hp.trans HRecc.out.raw.box) 12⟩
      have e1 : ((b.event + 1 : Nat) : Int) = (b.event : Int) + 1 := by omega
      obtain ⟨S15, hS151, hS152, hS153⟩ : ∃ S : World → Prop, (∀ W : World, W.heap[n]? = wc.heap[n]? → W.heap[p]? = wc.heap[p]? → W.heap[(P t.id).q]? = wc.heap[(P t.id).q]? → S W) ∧ (∀ (W : World) (v : Value), W.heap[n]? = wc.heap[n]? → W.heap[p]? = wc.heap[p]? → W.heap[(P t.id).q]? = wc.heap[(P t.id).q]? → n ≠ p → (P t.id).q ≠ p → S (W.setCell ⟨p, 12, none⟩ v)) ∧
        ∀ W : World, S W → W.cell? ⟨n, 2, none⟩ = some (.int .u64 (t.began : Nat)) ∧ W.cell? ⟨n, 4, none⟩ = some (.slice Ar rd.length cr) ∧ W.cell? ⟨n, 5, none⟩ = some (.slice A5 wr.length c5) ∧ W.cell? ⟨p, 10, none⟩ = some (.int .i64 ((b.event : Int) + 1)) ∧ W.cell? ⟨(P t.id).q, 1, none⟩ = some (.int .i64 (t.start : Nat)) := by
       refine ⟨_, fun W hn hp hq => ?_, fun W v hn hp hq hnp hqp => ?_, fun _ h => h⟩
       ·refine ⟨cell_of_row W n 2 _ _ _ (hn.trans HRecc.out.box), cell_of_row W n 4 _ _ _ (hn.trans HRecc.out.box), cell_of_row W n 5 _ _ _ (hn.trans HRecc.out.box), ?_, cell_of_row W _ 1 _ _ _ (hq.trans hqb)⟩
        rw [cell_of_row W p 10 _ _ _ (hp.trans HRecc.out.raw.box), ← e1]
        rfl
       ·refine ⟨cell_of_row _ n 2 _ _ _ ((q0b hnp _ _).trans (hn.trans HRecc.out.box)), cell_of_row _ n 4 _ _ _ ((q0b hnp _ _).trans (hn.trans HRecc.out.box)), cell_of_row _ n 5 _ _ _ ((q0b hnp _ _).trans (hn.trans HRecc.out.box)), ?_, cell_of_row _ _ 1 _ _ _ ((q0b hqp _ _).trans (hq.trans hqb))⟩
        rw [cell_of_row _ p 10 _ _ _ (q1o (hp.trans HRecc.out.raw.box) 12 v), ← e1]
        rfl
      have HK15 := qh hS151
      have HS15 := qh hS152
      have HR15 := qh hS153
      have hby0 : Below wc.heap.size wc (wc.alloc (.cells #[.int .i64 (t.id : Nat), .int .u64 (t.began : Nat), .int .u64 (ca : Nat), .int .i64 (t.start : Nat), .int .i64 ((b.event : Int) + 1), .slice Ar rd.length cr, .slice A5 wr.length c5] 104)).drew := ((Below.refl _ _).alloc (Nat.le_refl _) _).drew
      have HBy := qh hby0
      have halp := hby0.block p (q00 HRecc.out.raw.box)
      have HAl := qh (show S15 (wc.alloc (.cells #[.int .i64 (t.id : Nat), .int .u64 (t.began : Nat), .int .u64 (ca : Nat), .int .i64 (t.start : Nat), .int .i64 ((b.event : Int) + 1), .slice Ar rd.length cr, .slice A5 wr.length c5] 104)).drew from HK15.out _ (hby0.block n (q00 HRecc.out.box)) halp (hby0.block _ (q00 hqb)))
      have HA0 := qh (show S15 wc.drew from HK15.out _ rfl rfl rfl)
      have y12 := (HC15.out wc rfl).1
      have y12a := (HC15.out wc.drew rfl).1
      have y12b := (HC15.out _ halp).1
      clear hmsd hmsd2 hownd hokd hroled hS151 hS152 hS153 hby0 halp hP15 hG15 ht1 htx hqe hqb hqr e1
      go_upto_region 15 with fail
      refine wp_region_held_drew (S := S15) (by kernel_rfl) ?_ (fun hGd => ?_)
      ·exact HA0.out
      refine tkS (i := 0) (v := ?_) ?_
      (try simp only [Act.put, qA, qB, qC])
      refine tkS (i := 1) (v := ?_) ?_
      (try simp only [Act.put, qA, qB, qC])
      refine tkS (i := 2) (v := ?_) ?_
      (try simp only [Act.put, qA, qB, qC])
      refine tkS (i := 3) (v := ?_) ?_
      (try simp only [Act.put, qA, qB, qC])
      refine tkS (i := 5) (v := ?_) ?_
      (try simp only [Act.put, qA, qB, qC])
      refine tkS (i := 6) (v := ?_) ?_
      (try simp only [Act.put, qA, qB, qC])
      refine tkH (i := 7) (v := ?_) (fun w hSw => ?_) ?_
      rotate_left
      ·obtain ⟨x2, x4, x5, x10, xq⟩ := HR15.out _ hSw; go_simp <;> with_reducible rfl
      (try simp only [Act.put, qA, qB, qC])
      refine tkS (i := 8) (v := ?_) ?_
      (try simp only [Act.put, qA, qB, qC])
      refine tkS (i := 9) (v := ?_) ?_
      (try simp only [Act.put, qA, qB, qC])
      refine tkS (i := 10) (v := ?_) ?_
      (try simp only [Act.put, qA, qB, qC])
      refine tkS (i := 11) (v := ?_) ?_
      (try simp only [Act.put, qA, qB, qC])
      refine tkH (i := 12) (v := ?_) (fun w hSw => ?_) ?_
      rotate_left
      ·obtain ⟨x2, x4, x5, x10, xq⟩ := HR15.out _ hSw; go_simp <;> with_reducible rfl
      (try simp only [Act.put, qA, qB, qC])
      refine tkS (i := 13) (v := ?_) ?_
      (try simp only [Act.put, qA, qB, qC])
      refine tkS (i := 14) (v := ?_) ?_
      (try simp only [Act.put, qA, qB, qC])
      refine tkS (i := 15) (v := ?_) ?_
      (try simp only [Act.put, qA, qB, qC])
      refine tkH (i := 16) (v := ?_) (fun w hSw => ?_) ?_
      rotate_left
      ·obtain ⟨x2, x4, x5, x10, xq⟩ := HR15.out _ hSw; go_simp <;> with_reducible rfl
      (try simp only [Act.put, qA, qB, qC])
      refine tkS (i := 17) (v := ?_) ?_
      (try simp only [Act.put, qA, qB, qC])
      refine tkH (i := 18) (v := ?_) (fun w hSw => ?_) ?_
      rotate_left
      ·obtain ⟨x2, x4, x5, x10, xq⟩ := HR15.out _ hSw; go_simp <;> with_reducible rfl
      (try simp only [Act.put, qA, qB, qC])
      refine tkS (i := 19) (v := ?_) ?_
      (try simp only [Act.put, qA, qB, qC])
      refine tkH (i := 20) (v := ?_) (fun w hSw => ?_) ?_
      rotate_left
      ·obtain ⟨x2, x4, x5, x10, xq⟩ := HR15.out _ hSw; go_simp <;> with_reducible rfl
      (try simp only [Act.put, qA, qB, qC])
      refine tkS (i := 21) (v := ?_) ?_
      (try simp only [Act.put, qA, qB, qC])
      refine q2g (i := 4) (j := 22) (by kernel_rfl) rfl rfl (fun K' hK => ?_) (fun K' hK => ?_)
      ·go_simp
       (first | (refine hK.out _ _ ?_ (fun hG2 => ?_)) | (go_wp2_with fail; refine hK.out _ _ ?_ (fun hG2 => ?_)))
       ·first | exact HA0.out | exact HAl.out
       clear hK K' hGd
       have hGd := hG2
       clear hG2
       (try simp only [Act.put, qA, qB, qC])
       refine stH (i := 22) (fun K' hK => ?_)
       go_simp
       (first | (refine hK.out _ _ ?_ (fun hG2 => ?_)) | (go_wp2_with fail; refine hK.out _ _ ?_ (fun hG2 => ?_)))
       ·exact HAl.out
       clear hK K' hGd
       have hGd := hG2
       clear hG2
       (try simp only [Act.put, qA, qB, qC])
       clear y12 y12a y12b
       obtain ⟨wz, hwz⟩ : ∃ y, (wc.alloc (.cells #[.int .i64 (t.id : Nat), .int .u64 (t.began : Nat), .int .u64 (ca : Nat), .int .i64 (t.start : Nat), .int .i64 ((b.event : Int) + 1), .slice Ar rd.length cr, .slice A5 wr.length c5] 104)).drew = y := ⟨_, rfl⟩
       have hbz := HBy.out
       have hxz : (wc.alloc (.cells #[.int .i64 (t.id : Nat), .int .u64 (t.began : Nat), .int .u64 (ca : Nat), .int .i64 (t.start : Nat), .int .i64 ((b.event : Int) + 1), .slice Ar rd.length cr, .slice A5 wr.length c5] 104)).drew.heap[wc.heap.size]? = _ := heap_alloc_new wc (.cells #[.int .i64 (t.id : Nat), .int .u64 (t.began : Nat), .int .u64 (ca : Nat), .int .i64 (t.start : Nat), .int .i64 ((b.event : Int) + 1), .slice Ar rd.length cr, .slice A5 wr.length c5] 104)
       have hwz2 : wc.drew.alloc (.cells #[.int .i64 (t.id : Nat), .int .u64 (t.began : Nat), .int .u64 (ca : Nat), .int .i64 (t.start : Nat), .int .i64 ((b.event : Int) + 1), .slice Ar rd.length cr, .slice A5 wr.length c5] 104) = wz := hwz
       rw [hwz] at hbz hxz
       (first | rw [hwz] at hGd ⊢ | rw [hwz2] at hGd ⊢)
       have hrowz := (RowG.one (cs := q0S) (x := (⟨⟨t.id, t.began, ca, t.start, b.event + 1, rd, wr⟩, Ar, cr, A5, c5⟩ : MD)) hxz).wide (Nat.zero_le _) (q00 hxz)
       clear hwz hwz2
       refine stH (i := 23) (fun K' hK => ?_)
       rw [if_pos (by simp [Region.wanted])]
       refine q46 wz (.tmp 95) (.tmp 113) rfl 0 hv msd rfl (HOwd.out.below hbz) 0 wz.heap.size ⟨wc.heap.size, 0, none⟩ 1 1 [(⟨⟨t.id, t.began, ca, t.start, b.event + 1, rd, wr⟩, Ar, cr, A5, c5⟩ : MD)] rfl rfl hrowz (by simp; omega) (Nat.zero_le _) ?_
       intro v8 w8 ho8 hg8 hat8
       obtain ⟨hgn, hgp, hgq, hnp, hqp⟩ := HG15.out wz w8 hbz hg8
       obtain ⟨A8, c8, hv8, _⟩ := ho8.form
       obtain ⟨n8, hn8⟩ : ∃ m, (msd ++ [(⟨⟨t.id, t.began, ca, t.start, b.event + 1, rd, wr⟩, Ar, cr, A5, c5⟩ : MD)]).length = m := ⟨_, rfl⟩
       rw [hn8] at hv8
       clear hn8
       subst hv8
       (first | (refine hK.out _ _ ?_ (fun hG2 => ?_)) | (go_wp2_with fail; refine hK.out _ _ ?_ (fun hG2 => ?_)))
       ·exact HK15.out _ hgn hgp hgq
       clear hK K' hGd
       have hGd := hG2
       clear hG2
       (try simp only [Act.put, qA, qB, qC])
       refine tkS (i := 24) (v := ?_) ?_
       (try simp only [Act.put, qA, qB, qC])
       refine tkS (i := 25) (v := ?_) ?_
       (try simp only [Act.put, qA, qB, qC])
       obtain ⟨g12, f12⟩ := HC15.out w8 hgp
       refine stH (i := 26) (fun K' hK => ?_)
       go_simp
       (first | (refine hK.out _ _ ?_ (fun hG2 => ?_)) | (go_wp2_with fail; refine hK.out _ _ ?_ (fun hG2 => ?_)))
       ·exact HS15.out _ _ hgn hgp hgq hnp hqp
       clear hK K' hGd
       have hGd := hG2
       clear hG2
       (try simp only [Act.put, qA, qB, qC])
       refine wpAnyH_done (by kernel_rfl) ?_ _
       obtain ⟨ρ9, P9, rv9, hv9, hraw9, hreach9, hq9⟩ := HP15.out wz w8 _ hbz ho8 hg8 hat8
       go_wp2_with fail
       go_ret2
       rw [HIn.out, HMx.out]
       exact ⟨rfl, ρ9, P9, rv9, hv9, hraw9, hreach9, fun i => (hq9 i).trans (HQ1.out i)⟩
      ·go_simp
       (first | (refine hK.out _ _ ?_ (fun hG2 => ?_)) | (go_wp2_with fail; refine hK.out _ _ ?_ (fun hG2 => ?_)))
       ·exact HAl.out
       clear hK K' hGd
       have hGd := hG2
       clear hG2
       (try simp only [Act.put, qA, qB, qC])
       refine stH (i := 4) (fun K' hK => ?_)
       go_simp
       (first | (refine hK.out _ _ ?_ (fun hG2 => ?_)) | (go_wp2_with fail; refine hK.out _ _ ?_ (fun hG2 => ?_)))
       ·first | exact HA0.out | exact HAl.out
       clear hK K' hGd
       have hGd := hG2
       clear hG2
       (try simp only [Act.put, qA, qB, qC])
       clear y12 y12a y12b
       obtain ⟨wz, hwz⟩ : ∃ y, (wc.alloc (.cells #[.int .i64 (t.id : Nat), .int .u64 (t.began : Nat), .int .u64 (ca : Nat), .int .i64 (t.start : Nat), .int .i64 ((b.event : Int) + 1), .slice Ar rd.length cr, .slice A5 wr.length c5] 104)).drew = y := ⟨_, rfl⟩
       have hbz := HBy.out
       have hxz : (wc.alloc (.cells #[.int .i64 (t.id : Nat), .int .u64 (t.began : Nat), .int .u64 (ca : Nat), .int .i64 (t.start : Nat), .int .i64 ((b.event : Int) + 1), .slice Ar rd.length cr, .slice A5 wr.length c5] 104)).drew.heap[wc.heap.size]? = _ := heap_alloc_new wc (.cells #[.int .i64 (t.id : Nat), .int .u64 (t.began : Nat), .int .u64 (ca : Nat), .int .i64 (t.start : Nat), .int .i64 ((b.event : Int) + 1), .slice Ar rd.length cr, .slice A5 wr.length c5] 104)
       have hwz2 : wc.drew.alloc (.cells #[.int .i64 (t.id : Nat), .int .u64 (t.began : Nat), .int .u64 (ca : Nat), .int .i64 (t.start : Nat), .int .i64 ((b.event : Int) + 1), .slice Ar rd.length cr, .slice A5 wr.length c5] 104) = wz := hwz
       rw [hwz] at hbz hxz
       (first | rw [hwz] at hGd ⊢ | rw [hwz2] at hGd ⊢)
       have hrowz := (RowG.one (cs := q0S) (x := (⟨⟨t.id, t.began, ca, t.start, b.event + 1, rd, wr⟩, Ar, cr, A5, c5⟩ : MD)) hxz).wide (Nat.zero_le _) (q00 hxz)
       clear hwz hwz2
       refine stH (i := 23) (fun K' hK => ?_)
       rw [if_pos (by simp [Region.wanted])]
       refine q46 wz (.tmp 95) (.tmp 113) rfl 0 hv msd rfl (HOwd.out.below hbz) 0 wz.heap.size ⟨wc.heap.size, 0, none⟩ 1 1 [(⟨⟨t.id, t.began, ca, t.start, b.event + 1, rd, wr⟩, Ar, cr, A5, c5⟩ : MD)] rfl rfl hrowz (by simp; omega) (Nat.zero_le _) ?_
       intro v8 w8 ho8 hg8 hat8
       obtain ⟨hgn, hgp, hgq, hnp, hqp⟩ := HG15.out wz w8 hbz hg8
       obtain ⟨A8, c8, hv8, _⟩ := ho8.form
       obtain ⟨n8, hn8⟩ : ∃ m, (msd ++ [(⟨⟨t.id, t.began, ca, t.start, b.event + 1, rd, wr⟩, Ar, cr, A5, c5⟩ : MD)]).length = m := ⟨_, rfl⟩
       rw [hn8] at hv8
       clear hn8
       subst hv8
       (first | (refine hK.out _ _ ?_ (fun hG2 => ?_)) | (go_wp2_with fail; refine hK.out _ _ ?_ (fun hG2 => ?_)))
       ·exact HK15.out _ hgn hgp hgq
       clear hK K' hGd
       have hGd := hG2
       clear hG2
       (try simp only [Act.put, qA, qB, qC])
       refine tkS (i := 24) (v := ?_) ?_
       (try simp only [Act.put, qA, qB, qC])
       refine tkS (i := 25) (v := ?_) ?_
       (try simp only [Act.put, qA, qB, qC])
       obtain ⟨g12, f12⟩ := HC15.out w8 hgp
       refine stH (i := 26) (fun K' hK => ?_)
       go_simp
       (first | (refine hK.out _ _ ?_ (fun hG2 => ?_)) | (go_wp2_with fail; refine hK.out _ _ ?_ (fun hG2 => ?_)))
       ·exact HS15.out _ _ hgn hgp hgq hnp hqp
       clear hK K' hGd
       have hGd := hG2
       clear hG2
       (try simp only [Act.put, qA, qB, qC])
       refine wpAnyH_done (by kernel_rfl) ?_ _
       obtain ⟨ρ9, P9, rv9, hv9, hraw9, hreach9, hq9⟩ := HP15.out wz w8 _ hbz ho8 hg8 hat8
       go_wp2_with fail
       go_ret2
       rw [HIn.out, HMx.out]
       exact ⟨rfl, ρ9, P9, rv9, hv9, hraw9, hreach9, fun i => (hq9 i).trans (HQ1.out i)⟩
    ·have HIn := qh (HIe.out hce)
     have d1 : (ce == 0) = false := by rw [beq_eq_false_iff_ne]; exact hce
     clear HIe HIo HCt
     go_wp2_with fail
     go_ret2
     rw [HIn.out]
     exact ⟨rfl, ρ4, P1, rv, hv, HRec9.out.raw, HRec9.out.reach, fun i => HQ1.out i⟩
end
end Go.Proofs.YtdpbllacfljmoaaGreat
