import Derived.Test.YtdpbllacfljmoaaGreatZD16
set_option maxRecDepth 100000
set_option maxHeartbeats 16000000
set_option linter.unusedVariables false
namespace Go.Proofs.YtdpbllacfljmoaaGreat
open Go.RowKit
theorem q26 {w : World} {p : Nat} {L : LimS} {m r v : Int} {now B : Nat} {kv : Value} {z : Sz} (h : w.heap[p]? = some (.cells (boxS L m r v now B kv z) 165 (0, 0))) (i : Nat) (u : Value) :
  (w.setCell ⟨p, i, none⟩ u).heap[p]? = some (.cells ((boxS L m r v now B kv z).setIfInBounds i u) 165 (0, 0)) := by
 rw [setCell_eq_setRow w p i _ _ _ u h]
 exact setRow_heap w p _ _ _ _ h
section
variable {w w' : World} {p : Nat} {F D : Nat → Prop} {B : Nat} {kv : Value} {cv : KeyS → Value} {L : LimS} {m r v : Int} {now : Nat} {g : KeyS → List Ver} {ks : List KeyS} {z : Sz}
theorem RawS.cellSet (h : RawS w p F D B kv cv L m r v now g ks z) {now' : Nat} {z' : Sz} (i : Nat) (u : Value) (hb : (boxS L m r v now B kv z).setIfInBounds i u = boxS L m r v now' B kv z') : RawS (w.setCell ⟨p, i, none⟩ u) p F D B kv cv L m r v now' g ks z' :=
 h.turn (by rw [q26 h.box, hb]) (fun b hb => q0b hb _ _) (by simp [World.setCell])
theorem q1K (w : World) {p : Nat} {F : Nat → Prop} (hp : F p) (i : Nat) (u : Value) : Mut F w (w.setCell ⟨p, i, none⟩ u) := ⟨rfl, rfl, rfl, by simp [World.setCell], fun k _ hf => q0b (fun e => hf (by rw [e]; exact hp)) _ _⟩
theorem qd7 {k : KeyS} {l : List Ver} (h : l ≠ []) : m1 k l = 1 := if_neg h
theorem qd8 {k : KeyS} {l : List Ver} (h : l ≠ []) : m3 k l = k.length + q0x l := if_neg h
theorem q6h {F : Nat → Prop} {B : Nat} (h : w.grownBy w' (some B)) (hB : F B) : Mut F w w' := ⟨h.os, h.tape, h.output, h.size, fun k hk hf => h.block k hk fun e => hf (by injection e with e; rw [e]; exact hB)⟩
def RetT (w : World) (p : Nat) (F : Nat → Prop) (B : Nat) (kv : Value) (L : LimS) (m r v : Int) (now : Nat) (g : KeyS → List Ver) (ks : List KeyS) (z : Sz) (e : Ending) (w' : World) : Prop := e = .returned (.tuple #[]) ∧ qfh w p F B kv L m r v now g ks z w'
theorem RawS.same (h : RawS w p F D B kv cv L m r v now g ks z) : qfh w p F B kv L m r v now g ks z w := ⟨F, D, cv, h, Mut.refl _ _, fun _ h => .inl h⟩
theorem qbo (h : RawS w p F D B kv cv L m r v now g ks z) (k : KeyS) (low : Nat) (hok : q4z (g k)) (hri : q1s (g k) = true) (ha : AltC (g k)) (hz1 : m1 k (g k) ≤ z.k) (hz2 : m2 k (g k) ≤ z.v) (hz3 : m3 k (g k) ≤ z.b)
    (hzb : z.k ≤ 1099511627776 ∧ z.v ≤ 1099511627776 ∧ z.b ≤ 1099511627776) (hkl : k.length ≤ 1048576) :
    Calls Tryz.prog 142 #[ptrS p, .string (bs k), .int .u64 low] w (RetT w p F B kv L m r v now (updG g k (q0p (g k) low)) ks (q3V z k (g k) (q0p (g k) low))) := by
  have c8 := h.map_
  have hlk := h.look k
  obtain ⟨A, c, hv, hc⟩ := h.ch k
  rw [hv] at hlk
  have HH := qh h
  have HCh := qh hc
  have HOk := qh hok
  have hlen : (g k).length ≤ 4294967296 := hok.1
  by_cases hst : q0p (g k) low = g k ∧ ((g k).length < 2 ∨ ∃ h1 : 1 < (g k).length, low < ((g k)[1]'h1).tm)
  · have HQ := qh (show RetT w p F B kv L m r v now (updG g k (q0p (g k) low)) ks (q3V z k (g k) (q0p (g k) low)) (.returned (.tuple #[])) w from ⟨rfl, by rw [hst.1, qdY, qbX]; exact h.same⟩)
    generalize RetT w p F B kv L m r v now (updG g k (q0p (g k) low)) ks (q3V z k (g k) (q0p (g k) low)) = R at *
    unfold ptrS
    rcases hst.2 with h2 | ⟨h1, h2⟩
    · have d1 : decide (((g k).length : Int) < 2) = true := by rw [decide_eq_true_iff]; omega
      clear h hv hc hok hri ha hz1 hz2 hz3 hst
      generalize (g k).length = n at *
      go_enter Tryz.func142, Tryz.ntmps142
      go_wp2
      refine bodyPost_ret (v := .tuple #[]) (by simp [results, Tryz.results142, go_sem]) rfl ?_
      exact HQ.out
    · have d1 : decide (((g k).length : Int) < 2) = false := by rw [decide_eq_false_iff_not]; omega
      obtain ⟨b, o, A', c', rfl, x4, x0, x1, x2, x3, htm⟩ := hc.2.2.2.at_ h1
      clear x1 x2 x3 x4 htm
      rw [Nat.one_mul] at x0
      have d2 : decide (1 < ((g k).length : Int)) = true := by rw [decide_eq_true_iff]; omega
      have d3 : (1 : Int) < ((g k).length : Int) := by omega
      have d4 : decide (1 < (g k).length) = true := by rw [decide_eq_true_iff]; omega
      have d5 : decide ((low : Int) < (((g k)[1]'h1).tm : Int)) = true := by rw [decide_eq_true_iff]; omega
      have d6 : decide (low < ((g k)[1]'h1).tm) = true := by rw [decide_eq_true_iff]; omega
      clear h hv hc hok hri ha hz1 hz2 hz3 hst HCh HOk
      generalize (g k)[1].tm = tm at *
      generalize (g k).length = n at *
      go_enter Tryz.func142, Tryz.ntmps142
      go_wp2
      refine bodyPost_ret (v := .tuple #[]) (by simp [results, Tryz.results142, go_sem]) rfl ?_
      exact HQ.out
  · have h1 : 1 < (g k).length := by
      rcases Nat.lt_or_ge 1 (g k).length with h1 | h1
      · exact h1
      · exact absurd ⟨q7c ((q0Y _ 0).1 hri).2 ha low (fun h2 => by omega), .inl (by omega)⟩ hst
    have h2 : ((g k)[1]'h1).tm ≤ low := by
      rcases Nat.lt_or_ge low ((g k)[1]'h1).tm with h2 | h2
      · exact absurd ⟨q7c ((q0Y _ 0).1 hri).2 ha low (fun _ => h2), .inr ⟨h1, h2⟩⟩ hst
      · exact h2
    obtain ⟨b, o, A', c', rfl, x4, x0, x1, x2, x3, htm⟩ := hc.2.2.2.at_ h1
    rw [Nat.one_mul] at x0
    clear x1 x2 x3 x4 htm
    have HTrim := qh (q6T (g k) _ c low w hok hc hri)
    have hgk : g k ≠ [] := fun e => by rw [e] at h1; simp at h1
    have hTl : (q0p (g k) low).length ≤ (g k).length := qaT _ _
    have hTs : q0x (q0p (g k) low) ≤ q0x (g k) := q8Z _ _
    rw [qd8 hgk] at hz3
    rw [qd7 hgk] at hz1
    have hz2' : (g k).length ≤ z.v := hz2
    have HTZ : Hid (q3V z k (g k) (q0p (g k) low) = ⟨z.k + m1 k (q0p (g k) low) - 1, z.v + (q0p (g k) low).length - (g k).length, z.b + m3 k (q0p (g k) low) - (k.length + q0x (g k))⟩) := qh (by unfold q3V; rw [qd7 hgk, qd8 hgk]; rfl)
    have hTok : q4z (q0p (g k) low) := ⟨by have := hok.1; omega, by have := hok.2; omega⟩
    have HTOk := qh hTok
    have d1 : decide (((g k).length : Int) < 2) = false := by rw [decide_eq_false_iff_not]; omega
    have d2 : decide (1 < ((g k).length : Int)) = true := by rw [decide_eq_true_iff]; omega
    have d3 : (1 : Int) < ((g k).length : Int) := by omega
    have d4 : decide (1 < (g k).length) = true := by rw [decide_eq_true_iff]; omega
    have d5 : decide ((low : Int) < (((g k)[1]'h1).tm : Int)) = false := by rw [decide_eq_false_iff_not]; omega
    have d6 : decide (low < ((g k)[1]'h1).tm) = false := by rw [decide_eq_false_iff_not]; omega
    have hsl := hok.2
    have HGK := qh hgk
    have HV := qh hv
    clear h hv hc hok hri ha hz2 hst h2 hTok hgk
    generalize (g k)[1].tm = tm at *
    clear h1
    generalize hT : q0p (g k) low = T at *
    clear hT
    generalize hgl : (g k).length = n at *
    generalize hsz : q0x (g k) = sz at *
    generalize hTn : T.length = Tn at *
    generalize hTz : q0x T = Tz at *
    obtain ⟨dl, hdl⟩ : ∃ d, n - Tn = d := ⟨_, rfl⟩
    obtain ⟨V, hV⟩ : ∃ d, z.v - dl = d := ⟨_, rfl⟩
    obtain ⟨ds, hds⟩ : ∃ d, sz - Tz = d := ⟨_, rfl⟩
    obtain ⟨Bz, hBz⟩ : ∃ d, z.b - ds = d := ⟨_, rfl⟩
    have qa : (n : Int) - (Tn : Int) = (dl : Int) := by omega
    have qb : (z.v : Int) - (dl : Int) = (V : Int) := by omega
    have qc : (sz : Int) - (Tz : Int) = (ds : Int) := by omega
    have qd : (z.b : Int) - (ds : Int) = (Bz : Int) := by omega
    have b1 : z.v ≤ 1099511627776 := hzb.2.1
    have b2 : z.b ≤ 1099511627776 := hzb.2.2
    have b3 : z.k ≤ 1099511627776 := hzb.1
    have hdlb : dl ≤ 4294967296 := by omega
    have hdsb : ds ≤ 4294967296 := by omega
    have hTnb : Tn ≤ 4294967296 := by omega
    have hTzb : Tz ≤ 4294967296 := by omega
    have hVb : V ≤ 1099511627776 := by omega
    have hBzb : Bz ≤ 1099511627776 := by omega
    have HN1 := qh hgl
    have HN2 := qh hsz
    have HN3 := qh hTn
    have HN4 := qh hTz
    have HAr := qh (And.intro hdl (And.intro hV (And.intro hds (And.intro hBz (And.intro hz1 hz3)))))
    clear hgl hsz hTn hTz hdl hV hds hBz hzb
    unfold ptrS
    go_enter Tryz.func142, Tryz.ntmps142
    go_wp2_with fail
    refine HTrim.out.mono ?_
    rintro e w1 ⟨q, cT, ms, rfl, hms, hq, hown, hfar, hb1⟩
    have hh1 := HH.out.below hb1
    have c11 := hh1.sz1
    have f11 := hh1.frozen 11
    have HH1 := qh hh1
    have HB1 := qh hb1
    have HMs := qh hms
    have HQ := qh hq
    have HOwn := qh hown
    have HFar := qh hfar
    clear HTrim hh1 hb1 hms hq hown hfar
    rw [HN3.out] at HOwn ⊢
    obtain ⟨w2, hw2⟩ : ∃ y, w1.setCell ⟨p, 11, none⟩ (.int .i64 (V : Int)) = y := ⟨_, rfl⟩
    have hh2 : RawS w2 p F D B kv cv L m r v now g ks ⟨z.k, V, z.b⟩ := by rw [← hw2]; exact HH1.out.cellSet 11 _ rfl
    have hs2 : w2.heap.size = w1.heap.size := by rw [← hw2]; simp [World.setCell]
    have hk2 : ∀ b, b ≠ p → w2.heap[b]? = w1.heap[b]? := fun b hb => by rw [← hw2]; exact q0b hb _ _
    have hm2 : Mut F w1 w2 := by rw [← hw2]; exact q1K w1 HH.out.Fp 11 _
    have hqp : q ≠ p := fun e => by have := HH.out.lt p HH.out.Fp; have := HQ.out; omega
    have hown2 : OwnG 182 3 q1u w2 q (.slice (some ⟨q, 0, none⟩) Tn cT) ms := OwnG.keep HOwn.out (fun b hb _ => hk2 b (by simp only [Value.ownBlock, Option.some.injEq] at hb; omega)) (Nat.le_refl _)
    have hfar2 : ∀ x ∈ ms, q5k w2 (q + 1) w1.heap.size x := fun x hx => (HFar.out x hx).keep (fun b h1 h2 => hk2 b (by have := HH.out.lt p HH.out.Fp; have := HQ.out; omega)) (Nat.le_refl _)
    have HSz1 : Hid (∀ W, Below w2.heap.size w2 W → Calls Tryz.prog 205 #[.slice (some ⟨b, o, none⟩) n c] W fun e w' => e = .returned (.int .i64 (sz : Nat)) ∧ Below w2.heap.size w2 w') := qh fun W hb => by
      have hmv : RowH W W.heap.size (some ⟨b, o, none⟩) (g k) := by
        obtain ⟨A9, c9, e9, h9⟩ := ((hh2.below hb).ch k)
        rw [HV.out] at e9
        injection e9 with e9 _ _
        rw [e9]
        exact h9.2.2.2
      have h := q8g (g k) (some ⟨b, o, none⟩) c W.heap.size W (by rw [HN1.out]; omega) (by rw [HN2.out]; omega) hmv (Nat.le_refl _)
      rw [HN1.out, HN2.out] at h
      exact h.mono fun _ _ q => ⟨q.1, hb.trans (q.2.mono hb.size)⟩
    have HSz2 : Hid (∀ W, Below w2.heap.size w2 W → Calls Tryz.prog 205 #[.slice (some ⟨q, 0, none⟩) Tn cT] W fun e w' => e = .returned (.int .i64 (Tz : Nat)) ∧ Below w2.heap.size w2 w') := qh fun W hb => by
      have hrow : RowH W w2.heap.size (some ⟨q, 0, none⟩) T := by
        obtain ⟨A9, c9, e9, _, _, _, k4⟩ := hown2.form
        injection e9 with e9 _ _
        rw [← e9] at k4
        exact RowH.below ⟨ms, HMs.out, k4.wide (Nat.zero_le _) (Nat.le_refl _), fun x hx => (by rw [hs2]; exact (hfar2 x hx).ok)⟩ hb (Nat.le_refl _) (Nat.le_refl _)
      have h := q8g T (some ⟨q, 0, none⟩) cT w2.heap.size W (by rw [HN3.out]; omega) (by rw [HN4.out]; omega) hrow hb.size
      rw [HN3.out, HN4.out] at h
      exact h.mono fun _ _ q => ⟨q.1, hb.trans (q.2.mono hb.size)⟩
    have KEEP : Hid (∀ W, Below w2.heap.size w2 W → W.cell? ⟨p, 12, none⟩ = some (.int .i64 (z.b : Int))) := qh fun W hb => (hh2.below hb).sz2
    have HH2 := qh hh2
    have HS2 := qh hs2
    have HK2 := qh hk2
    have HM2 := qh hm2
    have HOwn2 := qh hown2
    have HFar2 := qh hfar2
    have HW2 := qh hw2
    clear hh2 hs2 hk2 hm2 hown2 hfar2 hw2 HOwn HFar HH1
    go_upto_region 4 with fail
    rw [HW2.out]
    clear HW2 c11 f11
    refine q1v (C := fun W => Below w2.heap.size w2 W) 11 (by kernel_rfl) (by kernel_rfl) (Below.refl _ _).drew ?_
    simp only [List.take_succ_cons, List.take_zero, List.drop_succ_cons, List.drop_zero]
    repeat (
      refine no_implicit_lambda% (wpQuiet_step ?_)
      intro K hK
      go_simp
      first
      | (refine no_implicit_lambda% (hK _ ?_); clear hK K)
      | (apply Exists.intro
         refine ⟨fun _ => ?_, hK _ ?_⟩
         (first
           | (intro _; with_reducible rfl)
           | (intro hw; with_reducible exact HSz1.out _ hw)
           | (intro hw; with_reducible exact HSz2.out _ hw)
           | (intro hw; have g0 := KEEP.out _ hw; go_simp; with_reducible exact ⟨rfl, rfl⟩)
           | (intro hw; have g0 := KEEP.out _ hw; go_simp; with_reducible rfl))
         clear hK K))
    refine wpQuiet_nil ?_
    intro w8 hb8
    have hh8 := HH2.out.below hb8
    have k8 := hh8.sz2
    have f8 := hh8.frozen 12
    obtain ⟨w9, hw9⟩ : ∃ y, w8.setCell ⟨p, 12, none⟩ (.int .i64 (Bz : Int)) = y := ⟨_, rfl⟩
    have hh9 : RawS w9 p F D B kv cv L m r v now g ks ⟨z.k, V, Bz⟩ := by rw [← hw9]; exact hh8.cellSet 12 _ rfl
    have hk9 : ∀ b, b < w2.heap.size → b ≠ p → w9.heap[b]? = w2.heap[b]? := fun b hb hne => by rw [← hw9, q0b hne]; exact hb8.block b hb
    have hs9 : w2.heap.size ≤ w9.heap.size := by rw [← hw9]; simpa [World.setCell] using hb8.size
    have hm9 : Mut F w w9 := ((Below.mut HB1.out F).trans HM2.out (fun _ h => .inl h)).trans ((Below.mut hb8 F).trans (by rw [← hw9]; exact q1K w8 HH.out.Fp 12 _) (fun _ h => .inl h)) (fun _ h => .inl h)
    have hown9 : OwnG 182 3 q1u w9 q (.slice (some ⟨q, 0, none⟩) Tn cT) ms := OwnG.keep HOwn2.out (fun b hb hlt => by
      simp only [Value.ownBlock, Option.some.injEq] at hb
      subst hb
      exact hk9 q hlt (fun e => by have := HH.out.lt p HH.out.Fp; have := HQ.out; omega)) (Nat.le_refl _)
    have hsize1 := HB1.out.size
    have hfar9 : ∀ x ∈ ms, q5k w9 (q + 1) w1.heap.size x := fun x hx => (HFar2.out x hx).keep (fun b h1 h2 => hk9 b (by rw [HS2.out]; exact h2) (fun e => by have := HH.out.lt p HH.out.Fp; have := HQ.out; omega)) (Nat.le_refl _)
    have hqlt : q < w2.heap.size := (HOwn2.out.lt q rfl).2
    have HH9 := qh hh9
    have HM9 := qh hm9
    have HOwn9 := qh hown9
    have HFar9 := qh hfar9
    have HS9 := qh hs9
    have HQlt := qh hqlt
    have HW9 := qh hw9
    have c8' := hh9.map_
    have e10 := hh9.sz0
    have g10 := hh9.frozen 10
    have e12 := hh9.sz2
    have g12 := hh9.frozen 12
    clear hh8 hb8 hw9 hh9 hk9 hs9 hm9 hown9 hfar9 hsize1 hqlt HOwn2 HFar2 HK2 HSz1 HSz2 KEEP
    by_cases hT0 : T = []
    · have hTn0 : Tn = 0 := by rw [← HN3.out, hT0]; rfl
      have hTz0 : Tz = 0 := by rw [← HN4.out, hT0]; rfl
      have d9 : decide ((0 : Int) < (Tn : Int)) = false := by rw [decide_eq_false_iff_not]; omega
      obtain ⟨w10, hdel, hmp, hgr, hsz10⟩ := MapS.drop (P := Tryz.prog) (ty := 0) (t2 := 9) HH9.out.map Tryz.underlying162 Tryz.underlying9 k
      unfold keyV at hdel
      have hh10 : RawS w10 p F D B kv cv L m r v now (updG g k []) ks ⟨z.k, V, Bz⟩ := HH9.out.dropC (by rw [qdc]; exact hmp) hgr.size (fun b hb hne => hgr.block b (HH9.out.lt b hb) (fun e => hne (by injection e)))
      obtain ⟨K1, hK1⟩ : ∃ d, z.k - 1 = d := ⟨_, rfl⟩
      obtain ⟨B2, hB2⟩ : ∃ d, Bz - k.length = d := ⟨_, rfl⟩
      have har := HAr.out
      have qe : (z.k : Int) - 1 = (K1 : Int) := by omega
      have qf : (Bz : Int) - ((bs k).size : Int) = (B2 : Int) := by rw [q1R]; omega
      have hksz : (bs k).size ≤ 1048576 := by rw [q1R]; exact hkl
      have j10 := hh10.sz0
      have l10 := hh10.frozen 10
      have j12 := hh10.sz2
      have l12 := hh10.frozen 12
      have hfin : RawS ((w10.setCell ⟨p, 10, none⟩ (.int .i64 (K1 : Int))).setCell ⟨p, 12, none⟩ (.int .i64 (B2 : Int))) p F D B kv cv L m r v now (updG g k []) ks ⟨K1, V, B2⟩ := (hh10.cellSet (z' := ⟨K1, V, Bz⟩) 10 _ rfl).cellSet 12 _ rfl
      have hmfin : Mut F w ((w10.setCell ⟨p, 10, none⟩ (.int .i64 (K1 : Int))).setCell ⟨p, 12, none⟩ (.int .i64 (B2 : Int))) := ((HM9.out.trans (q6h hgr HH.out.FB) (fun _ h => .inl h)).trans (q1K w10 HH.out.Fp 10 _) (fun _ h => .inl h)).trans (q1K _ HH.out.Fp 12 _) (fun _ h => .inl h)
      have HQ9 := qh (show RetT w p F B kv L m r v now (updG g k T) ks (q3V z k (g k) T) (.returned (.tuple #[])) ((w10.setCell ⟨p, 10, none⟩ (.int .i64 (K1 : Int))).setCell ⟨p, 12, none⟩ (.int .i64 (B2 : Int))) from by
        refine ⟨rfl, F, D, cv, ?_, hmfin, fun _ h => .inl h⟩
        have e : q3V z k (g k) T = ⟨K1, V, B2⟩ := by
          rw [HTZ.out, Sz.mk.injEq]
          have e1 : m1 k T = 0 := if_pos hT0
          have e3 : m3 k T = 0 := if_pos hT0
          rw [e1, e3]
          omega
        rw [e, hT0]
        exact hfin)
      have HDel := qh hdel
      clear hmp hgr hsz10 hh10 hfin hmfin har hdel hK1 hB2
      go_upto_region 5 with fail
      rw [qd, HW9.out]
      clear HW9 k8 f8
      have hdel := HDel.out
      generalize RetT w p F B kv L m r v now (updG g k T) ks (q3V z k (g k) T) = R at *
      clear hT0
      go_wp2
      refine bodyPost_ret (v := .tuple #[]) (by simp [results, Tryz.results142, go_sem]) rfl ?_
      exact HQ9.out
    · have hTp : 0 < Tn := by rw [← HN3.out]; exact List.length_pos_iff.2 hT0
      have d9 : decide ((0 : Int) < (Tn : Int)) = true := by rw [decide_eq_true_iff]; omega
      have d10 : decide (0 < Tn) = true := by rw [decide_eq_true_iff]; omega
      obtain ⟨w10, hupd, hmp, hgr, hsz10⟩ := MapS.store (P := Tryz.prog) HH9.out.map Tryz.underlying162 Tryz.underlying9 k (.slice (some ⟨q, 0, none⟩) Tn cT)
      unfold keyV at hupd
      have hlow : ∀ b, F b → b < w.heap.size := HH.out.lt
      have hqw := HQ.out
      have hs1 := HB1.out.size
      have hs2 := HS2.out
      have hs9 := HS9.out
      have hql := HQlt.out
      have hkp : ∀ b, w.heap.size ≤ b → b < w9.heap.size → w10.heap[b]? = w9.heap[b]? := fun b h1 h2 => hgr.block b h2 fun e => by
        injection e with e
        have := hlow B HH.out.FB
        omega
      have hown10 : OwnG 182 3 q1u w10 0 (.slice (some ⟨q, 0, none⟩) Tn cT) ms := OwnG.keep HOwn9.out (fun b hb hlt => by
        simp only [Value.ownBlock, Option.some.injEq] at hb
        subst hb
        exact hkp q hqw hlt) (Nat.zero_le _)
      have hfin : RawS w10 p (fun b => F b ∨ (w.heap.size ≤ b ∧ b < w10.heap.size)) (fun b => D b ∨ (q + 1 ≤ b ∧ b < w1.heap.size)) B kv (updC cv k (.slice (some ⟨q, 0, none⟩) Tn cT)) L m r v now (updG g k T) ks ⟨z.k, V, Bz⟩ := by
        refine HH9.out.putC (N := fun b => w.heap.size ≤ b ∧ b < w10.heap.size) (fun b hb => ⟨fun hf => by have := hlow b hf; omega, hb.2⟩) hT0 (by rw [q7B hT0]; exact hmp) ⟨ms, HMs.out, hown10, fun x hx => ?_⟩ hgr.size (fun b hb => .inl hb) (fun b hb => ?_) (fun b hb => ?_) (fun b hb hne _ => hgr.block b (HH9.out.lt b hb) (fun e => hne (by injection e)))
        · exact ((HFar9.out x hx).keep (fun b h1 h2 => hkp b (by omega) (by omega)) (Nat.le_refl _)).okD fun b h1 h2 => .inr ⟨h1, h2⟩
        · rcases hb with h1 | ⟨h1, h2⟩
          · exact .inl h1
          · exact .inr ⟨by omega, by omega⟩
        · simp only [Value.ownBlock, Option.some.injEq] at hb
          subst hb
          refine ⟨.inl ⟨hqw, by omega⟩, fun hd => ?_⟩
          rcases hd with h1 | ⟨h1, _⟩
          · have := hlow q (HH.out.FD q h1)
            omega
          · omega
      have HQ9 := qh (show RetT w p F B kv L m r v now (updG g k T) ks (q3V z k (g k) T) (.returned (.tuple #[])) w10 from by
        refine ⟨rfl, (fun b => F b ∨ (w.heap.size ≤ b ∧ b < w10.heap.size)), (fun b => D b ∨ (q + 1 ≤ b ∧ b < w1.heap.size)), (updC cv k (.slice (some ⟨q, 0, none⟩) Tn cT)), ?_, HM9.out.trans (q6h hgr HH.out.FB) (fun _ h => .inl h), fun b hb => Or.imp id And.left hb⟩
        have e : q3V z k (g k) T = ⟨z.k, V, Bz⟩ := by
          have har := HAr.out
          rw [HTZ.out, Sz.mk.injEq, qd7 hT0, qd8 hT0, HN4.out]
          omega
        rw [e]
        exact hfin)
      have HUpd := qh hupd
      clear hmp hgr hsz10 hfin hown10 hkp hupd hlow hqw hs1 hs2 hs9 hql
      go_upto_region 5 with fail
      rw [qd, HW9.out]
      clear HW9 k8 f8
      have hupd := HUpd.out
      generalize RetT w p F B kv L m r v now (updG g k T) ks (q3V z k (g k) T) = R at *
      clear hT0
      go_wp2
      refine bodyPost_ret (v := .tuple #[]) (by simp [results, Tryz.results142, go_sem]) rfl ?_
      exact HQ9.out
end
end Go.Proofs.YtdpbllacfljmoaaGreat
