import Derived.Test.YtfdiidhilonkoaaZC27
set_option linter.unusedVariables false
/-
  Package order: does one of those that are left wait for what another one read?
-/
namespace Go.Proofs.Ytfdiidhilonkoaa
open Go.RowKit

set_option maxRecDepth 100000 in
set_option maxHeartbeats 16000000 in
theorem dWaitR_any (K : SpanC) (w : World) (L : LayO) (lo : Nat) (A : Option Addr) (c : Nat) (ms : List MZ) (dn : Nat → Bool) (p1 p2 : Nat → Nat) (h : RestE w L lo A c ms dn p1 p2) (i : Nat) (hi : i < ms.length) :
    Calls Try.prog 38 #[.pointer (some ⟨L.r, 0, none⟩), .int .i64 (i : Nat)] w fun r w' => r = .returned (.bool (waitR (dz ms) dn i)) ∧ RestE w' L lo A c ms dn p1 p2 ∧ Mut (mvO L) w w' := by
  have HF := Lib.hid (fun (V : World) (hV : RestE V L lo A c ms dn p1 p2) => from2_any hV)
  have HE0 := Lib.hid h
  have HK := Lib.hid K
  obtain ⟨hlo0, m1, m2, mh, hM0⟩ := h
  have HBy := Lib.hid hM0.by2
  have HAh := Lib.hid (hM0.ahp i hi)
  obtain ⟨rc0, rc1, rc2, rc3, rc4, rc5, rc6, rc7⟩ := hM0.rcells
  have ac := hM0.ahd.cell hi
  have q3 : (i : Int) < (ms.length : Int) := by omega
  have q9 : (ms.length : Int) ≤ 1000 := by have := hM0.len; omega
  have HPc := Lib.hid (fun (V : World) (hV : Below w.heap.size w V) => (hM0.below hlo0 hV).rcells)
  have HPp := Lib.hid (fun (V : World) (hV : Below w.heap.size w V) (k : Nat) (hk : k < ms.length) => (hM0.below hlo0 hV).r2.pl.cell hk)
  have HTold := Lib.hid (fun (V : World) (hV : Below w.heap.size w V) (x : Nat) (hx : x < ms.length) => (hM0.told V x hx hV).mono fun r w' (q : r = .returned (.bool (dn x)) ∧ Below V.heap.size V w') => (⟨q.1, hV.trans (q.2.mono hV.size)⟩ : r = .returned (.bool (dn x)) ∧ Below w.heap.size w w'))
  clear hM0 hlo0 K
  generalize hah : mh i = a at *
  have ha1 := HAh.out.1
  have ha2 : a < (ms.length : Int) := by have := HAh.out.2.1; rwa [dz_len] at this
  clear hah
  go_enter Try.func38, Try.ntmps38
  go_upto_region 2 with fail
  by_cases h0 : 0 ≤ a
  · obtain ⟨k, rfl⟩ : ∃ k : Nat, a = (k : Int) := ⟨a.toNat, by omega⟩
    have d1 : decide ((k : Int) ≥ 0) = true := by simp
    have d2 : decide (0 ≤ (k : Int)) = true := by simp
    have hkn : k < ms.length := by omega
    have hpk := RestE.in2 HE0.out hkn
    have HYes0 := Lib.hid (fun (q : dn (p2 k) = false) => waitR_yes (l := dz ms) (dn := dn) (x := p2 k) (i := i) (by rw [dz_len]; exact hpk) (HAh.out.2.2.2 (by omega)).1 q (HAh.out.2.2.2 (by omega)).2)
    have HNone0 := Lib.hid (fun (q : dn (p2 k) = true) => HAh.out.next (fun _ => q))
    have HT := Lib.hid (fun (V : World) (hV : Below w.heap.size w V) => HTold.out V hV (p2 k) hpk)
    have HP2 := Lib.hid (fun (V : World) (hV : Below w.heap.size w V) => And.intro (HPc.out V hV) (HPp.out V hV k hkn))
    have q1 : ((k : Nat) : Int) < (ms.length : Int) := by omega
    clear HPc HPp HTold hkn hpk ha1 ha2 h0
    generalize hbd : dn (p2 k) = bd at *
    generalize hpk : p2 k = pk at *
    clear hpk
    cases bd with
    | false =>
      have HRes := Lib.hid (HYes0.out rfl)
      clear hbd rc0 rc1 rc2 rc3 rc4 rc5 rc6 rc7 ac
      refine wp_region_classJ (C := fun W => Below w.heap.size w W) (by kernel_rfl) (by kernel_rfl) ((Below.refl _ _).drew) ?_
      repeat (
        refine no_implicit_lambda% (wpQuiet_step ?_)
        intro K hK
        go_simp
        first
        | (refine no_implicit_lambda% (hK _ ?_); clear hK K)
        | (apply Exists.intro
           refine ⟨fun _ => ?_, hK _ ?_⟩
           (first
               | (intro hw; with_reducible exact HT.out _ hw)
               | (intro hw; obtain ⟨⟨rc0, rc1, rc2, rc3, rc4, rc5, rc6, rc7⟩, c1⟩ := HP2.out _ hw; go_simp; with_reducible exact ⟨rfl, rfl⟩)
               | (intro hw; obtain ⟨⟨rc0, rc1, rc2, rc3, rc4, rc5, rc6, rc7⟩, c1⟩ := HP2.out _ hw; go_simp; with_reducible rfl)
               | (intro _; with_reducible rfl)
               | (intro hw; go_simp; with_reducible exact ⟨rfl, rfl⟩)
               | (intro hw; go_simp; with_reducible exact rfl))
           clear hK K))
      refine wpQuiet_nil ?_
      intro w8 hb8
      have HE9 := Lib.hid (RestE.below HE0.out hb8)
      have HM9 := Lib.hid (Below.mut hb8 (mvO L))
      clear hb8
      go_wp2_with fail
      go_ret
      rw [HRes.out]
      exact ⟨rfl, HE9.out, HM9.out⟩
    | true =>
      have HNone := Lib.hid (HNone0.out rfl)
      clear hbd rc0 rc1 rc2 rc3 rc4 rc5 rc6 rc7 ac
      refine wp_region_classJ (C := fun W => Below w.heap.size w W) (by kernel_rfl) (by kernel_rfl) ((Below.refl _ _).drew) ?_
      repeat (
        refine no_implicit_lambda% (wpQuiet_step ?_)
        intro K hK
        go_simp
        first
        | (refine no_implicit_lambda% (hK _ ?_); clear hK K)
        | (apply Exists.intro
           refine ⟨fun _ => ?_, hK _ ?_⟩
           (first
               | (intro hw; with_reducible exact HT.out _ hw)
               | (intro hw; obtain ⟨⟨rc0, rc1, rc2, rc3, rc4, rc5, rc6, rc7⟩, c1⟩ := HP2.out _ hw; go_simp; with_reducible exact ⟨rfl, rfl⟩)
               | (intro hw; obtain ⟨⟨rc0, rc1, rc2, rc3, rc4, rc5, rc6, rc7⟩, c1⟩ := HP2.out _ hw; go_simp; with_reducible rfl)
               | (intro _; with_reducible rfl)
               | (intro hw; go_simp; with_reducible exact ⟨rfl, rfl⟩)
               | (intro hw; go_simp; with_reducible exact rfl))
           clear hK K))
      refine wpQuiet_nil ?_
      intro w8 hb8
      have HE := Lib.hid (RestE.below HE0.out hb8)
      have HM := Lib.hid (Below.mut hb8 (mvO L))
      have HC := Lib.hid (HF.out w8 HE.out ((k : Int) + 1) ((k : Int) + 1).toNat (by omega) (by omega))
      clear hb8 HT HP2 HYes0 HNone0
      obtain ⟨_, m1, m2, mh, hM⟩ := HE.out
      obtain ⟨rc0, rc1, rc2, rc3, rc4, rc5, rc6, rc7⟩ := hM.rcells
      clear hM
      go_wp2_with fail
      (with_reducible refine HC.out.mono ?_)
      rintro r w4 ⟨e, rfl, hf, hE4, hm4⟩
      have HE4 := Lib.hid hE4
      have HM4 := Lib.hid (Mut.two HM.out hm4)
      have HN4 := Lib.hid (HNone.out.from (fun j a b => hf.2.2.1 j a b))
      have g4 := hf.2.1
      have HU4 := Lib.hid (show e < ms.length → dn (p2 e) = false from fun q => hf.2.2.2.resolve_left (by omega))
      clear hf hE4 hm4 rc0 rc1 rc2 rc3 rc4 rc5 rc6 rc7 HE HM HNone HC
      go_wp2_with fail
      go_loopg [5, 6] ms.length (fun z iv _ wr => ∃ k : Nat, iv = .int .i64 (k : Nat) ∧ k ≤ ms.length ∧ ms.length ≤ k + z ∧ NoneTo (dz ms) dn p2 i k ∧ (k < ms.length → dn (p2 k) = false) ∧ RestE wr L lo A c ms dn p1 p2 ∧ Mut (mvO L) w wr)
      case atStart => exact ⟨e, rfl, g4, by omega, HN4.out, HU4.out, HE4.out, HM4.out⟩
      case round =>
        obtain ⟨k, rfl, k1, k2, kn, ku, kE, kM⟩ := hrel
        obtain ⟨wo, hwo⟩ : ∃ y, y = wr := ⟨_, rfl⟩
        subst hwo
        have HKz := Lib.hid k2
        have HNo := Lib.hid kn
        have HUn := Lib.hid ku
        have HE := Lib.hid kE
        have HM := Lib.hid kM
        clear kn ku kM HN4 HU4 HE4 HM4 k2
        by_cases hkn : k < ms.length
        · have hlt : decide ((k : Int) < (ms.length : Int)) = true := by simpa using hkn
          have hlt2 : decide (k < ms.length) = true := by simpa using hkn
          obtain ⟨hlo, n1, n2, ah, hM⟩ := kE
          have hpk := RestE.in2 HE.out hkn
          obtain ⟨b, o, rfl, hbl, hs1, hs2⟩ := hM.row.elem2 hpk hi
          have hfx := hM.few _ (List.getElem_mem hpk)
          have hfy := hM.few _ (List.getElem_mem hi)
          have hox := (hM.row.2.2.2.2 _ (List.getElem_mem hpk)).below (Below.refl lo _) (Nat.le_refl _) hlo
          have hoy := (hM.row.2.2.2.2 _ (List.getElem_mem hi)).below (Below.refl lo _) (Nat.le_refl _) hlo
          have HOver := Lib.hid (fun (q : (ms[i]'hi).d.at_ ≤ (ms[p2 k]'hpk).d.began) => HNo.out.over (l := dz ms) hM.by2 (fun _ => by rw [dz_at hpk, dz_at hi]; exact q))
          have HYes := Lib.hid (fun (q1 : p2 k ≠ i) (q : readsZ (ms[p2 k]'hpk).d (ms[i]'hi).d = true) => waitR_yes (l := dz ms) (dn := dn) (x := p2 k) (i := i) (by rw [dz_len]; exact hpk) q1 (HUn.out hkn) (by rw [dz_at hpk, dz_at hi]; exact q))
          have HPutA := Lib.hid (fun (q1 : p2 k ≠ i) (q : readsZ (ms[p2 k]'hpk).d (ms[i]'hi).d = true) => AheadP.put (l := dz ms) (by rw [dz_len]; exact hkn) HNo.out q1 (by rw [dz_at hpk, dz_at hi]; exact q))
          have HStep := Lib.hid (fun (q : p2 k = i ∨ readsZ (ms[p2 k]'hpk).d (ms[i]'hi).d = false) => HNo.out.step (l := dz ms) (by rw [dz_at hpk, dz_at hi]; exact q))
          have HRd := Lib.hid (fun (W : World) (hW : Below wo.heap.size wo W) => (dReads_any HK.out _ _ W hfx hfy (hox.below hW (Nat.le_refl _) hW.size) (hoy.below hW (Nat.le_refl _) hW.size)).mono fun r w' (q : r = .returned (.bool (readsZ (ms[p2 k]'hpk).d (ms[i]'hi).d)) ∧ Below W.heap.size W w') => (⟨q.1, hW.trans (q.2.mono hW.size)⟩ : r = .returned (.bool (readsZ (ms[p2 k]'hpk).d (ms[i]'hi).d)) ∧ Below wo.heap.size wo w'))
          have HPc2 := Lib.hid (fun (W : World) (hW : Below wo.heap.size wo W) => And.intro ((hM.below hlo hW).rcells) (And.intro ((hM.below hlo hW).r2.pl.cell hkn) (And.intro ((hs1.below hW (by omega)).all) ((hs2.below hW (by omega)).all))))
          have HPut := Lib.hid (fun (W : World) (hW : Below wo.heap.size wo W) (q : AheadP (dz ms) dn p2 i (k : Nat)) => And.intro (show RestE (W.setCell ⟨L.a, i, none⟩ (.int .i64 (k : Nat))) L lo (some ⟨b, o, none⟩) c ms dn p1 p2 from ⟨by simp [World.setCell]; exact Nat.le_trans hlo hW.size, _, _, _, (hM.below hlo hW).put (Nat.le_trans hlo hW.size) q⟩) (And.intro ((hM.below hlo hW).ahd.cell hi) ((hM.below hlo hW).ahd.frozen i)))
          have HKn := Lib.hid hkn
          clear hs1 hs2 hfx hfy hox hoy hM hkn k1
          generalize ms[p2 k]'hpk = x at *
          generalize ms[i]'hi = y at *
          have hpk2 : ((p2 k : Nat) : Int) < (ms.length : Int) := by omega
          have q2 : ((k : Nat) : Int) < (ms.length : Int) := by simpa using hlt
          have HPk := Lib.hid hpk
          clear hpk
          obtain ⟨⟨xi, xb, xa, xs, xe, xr, xw⟩, xA, xc, xB, xd⟩ := x
          obtain ⟨⟨yi, yb, ya, ys, ye, yr, yw⟩, yA, yc, yB, yd⟩ := y
          unfold mzVal at HRd
          simp only at HRd HPc2 HOver HYes HPutA HStep
          obtain ⟨⟨rc0, rc1, rc2, rc3, rc4, rc5, rc6, rc7⟩, c1, _, _⟩ := HPc2.out wo (Below.refl _ _)
          generalize hrv : readsZ ⟨xi, xb, xa, xs, xe, xr, xw⟩ ⟨yi, yb, ya, ys, ye, yr, yw⟩ = rv at *
          generalize p2 k = pk at *
          have hbo := Below.refl wo.heap.size wo
          by_cases hge : ya ≤ xb
          · have d1 : decide ((xb : Int) ≥ (ya : Int)) = true := by simpa using hge
            have d2 : decide (ya ≤ xb) = true := by simpa using hge
            have d3 : decide ((ya : Int) ≤ (xb : Int)) = true := by simpa using hge
            have HRes := Lib.hid (HOver.out hge)
            clear hge hrv
            go_wp2_with fail
            clear rc0 rc1 rc2 rc3 rc4 rc5 rc6 rc7 c1
            refine wp_region_classJ (C := fun W => Below wo.heap.size wo W) (by kernel_rfl) (by kernel_rfl) ((Below.refl _ _).drew) ?_
            repeat (
              refine no_implicit_lambda% (wpQuiet_step ?_)
              intro K hK
              go_simp
              first
              | (refine no_implicit_lambda% (hK _ ?_); clear hK K)
              | (apply Exists.intro
                 refine ⟨fun _ => ?_, hK _ ?_⟩
                 (first
                     | (intro hw; obtain ⟨⟨rc0, rc1, rc2, rc3, rc4, rc5, rc6, rc7⟩, c1, ⟨x0, x1, x2, x3, x4, x5, x6⟩, ⟨y0, y1, y2, y3, y4, y5, y6⟩⟩ := HPc2.out _ hw; go_simp; with_reducible exact ⟨rfl, rfl⟩)
                     | (intro hw; obtain ⟨⟨rc0, rc1, rc2, rc3, rc4, rc5, rc6, rc7⟩, c1, ⟨x0, x1, x2, x3, x4, x5, x6⟩, ⟨y0, y1, y2, y3, y4, y5, y6⟩⟩ := HPc2.out _ hw; go_simp; with_reducible rfl)
                     | (intro _; with_reducible rfl)
                     | (intro hw; go_simp; with_reducible exact ⟨rfl, rfl⟩)
                     | (intro hw; go_simp; with_reducible exact rfl))
                 clear hK K))
            refine wpQuiet_nil ?_
            intro w8 hb8
            have HE9 := Lib.hid (RestE.below HE.out hb8)
            have HM9 := Lib.hid (Mut.two HM.out (Below.mut hb8 (mvO L)))
            clear hb8
            go_wp2_with fail
            go_ret
            rw [HRes.out]
            exact ⟨rfl, HE9.out, HM9.out⟩
          · have d1 : decide ((xb : Int) ≥ (ya : Int)) = false := by simpa using (by omega : xb < ya)
            have d2 : decide (ya ≤ xb) = false := by simpa using (by omega : xb < ya)
            have d3 : decide ((ya : Int) ≤ (xb : Int)) = false := by simpa using (by omega : xb < ya)
            clear hge
            by_cases hpi : pk = i
            · have e1 : (((pk : Nat) : Int) != (i : Int)) = false := by rw [bne_eq_false_iff_eq]; omega
              have HNx := Lib.hid (HStep.out (.inl hpi))
              clear hpi hrv
              go_wp2_with fail
              clear rc0 rc1 rc2 rc3 rc4 rc5 rc6 rc7 c1
              refine wp_region_classJ (C := fun W => Below wo.heap.size wo W) (by kernel_rfl) (by kernel_rfl) ((Below.refl _ _).drew) ?_
              repeat (
                refine no_implicit_lambda% (wpQuiet_step ?_)
                intro K hK
                go_simp
                first
                | (refine no_implicit_lambda% (hK _ ?_); clear hK K)
                | (apply Exists.intro
                   refine ⟨fun _ => ?_, hK _ ?_⟩
                   (first
                       | (intro hw; obtain ⟨⟨rc0, rc1, rc2, rc3, rc4, rc5, rc6, rc7⟩, c1, ⟨x0, x1, x2, x3, x4, x5, x6⟩, ⟨y0, y1, y2, y3, y4, y5, y6⟩⟩ := HPc2.out _ hw; go_simp; with_reducible exact ⟨rfl, rfl⟩)
                       | (intro hw; obtain ⟨⟨rc0, rc1, rc2, rc3, rc4, rc5, rc6, rc7⟩, c1, ⟨x0, x1, x2, x3, x4, x5, x6⟩, ⟨y0, y1, y2, y3, y4, y5, y6⟩⟩ := HPc2.out _ hw; go_simp; with_reducible rfl)
                       | (intro _; with_reducible rfl)
                       | (intro hw; go_simp; with_reducible exact ⟨rfl, rfl⟩)
                       | (intro hw; go_simp; with_reducible exact rfl))
                   clear hK K))
              refine wpQuiet_nil ?_
              intro w7 hb7
              go_wp2_with fail
              refine wp_region_classJ (C := fun W => Below wo.heap.size wo W) (by kernel_rfl) (by kernel_rfl) hb7.drew ?_
              repeat (
                refine no_implicit_lambda% (wpQuiet_step ?_)
                intro K hK
                go_simp
                first
                | (refine no_implicit_lambda% (hK _ ?_); clear hK K)
                | (apply Exists.intro
                   refine ⟨fun _ => ?_, hK _ ?_⟩
                   (first
                       | (intro hw; obtain ⟨⟨rc0, rc1, rc2, rc3, rc4, rc5, rc6, rc7⟩, c1, ⟨x0, x1, x2, x3, x4, x5, x6⟩, ⟨y0, y1, y2, y3, y4, y5, y6⟩⟩ := HPc2.out _ hw; go_simp; with_reducible exact ⟨rfl, rfl⟩)
                       | (intro hw; obtain ⟨⟨rc0, rc1, rc2, rc3, rc4, rc5, rc6, rc7⟩, c1, ⟨x0, x1, x2, x3, x4, x5, x6⟩, ⟨y0, y1, y2, y3, y4, y5, y6⟩⟩ := HPc2.out _ hw; go_simp; with_reducible rfl)
                       | (intro _; with_reducible rfl)
                       | (intro hw; go_simp; with_reducible exact ⟨rfl, rfl⟩)
                       | (intro hw; go_simp; with_reducible exact rfl))
                   clear hK K))
              refine wpQuiet_nil ?_
              intro w8 hb8
              have HE9 := Lib.hid (RestE.below HE.out hb8)
              have HM9 := Lib.hid (Mut.two HM.out (Below.mut hb8 (mvO L)))
              clear hb8 hb7
              obtain ⟨_, m1, m2, mh, hM9⟩ := HE9.out
              obtain ⟨rc0, rc1, rc2, rc3, rc4, rc5, rc6, rc7⟩ := hM9.rcells
              clear hM9
              have HC9 := Lib.hid (HF.out w8 HE9.out ((k : Int) + 1) (k + 1) (by omega) (by have := HKn.out; omega))
              go_wp2_with fail
              (with_reducible refine HC9.out.mono ?_)
              rintro r w10 ⟨e2, rfl, hf, hE10, hm10⟩
              have HEA := Lib.hid hE10
              have HMA := Lib.hid (Mut.two HM9.out hm10)
              have HNA := Lib.hid (HNx.out.from (fun j a b => hf.2.2.1 j a b))
              have g1 := hf.1
              have g2 := hf.2.1
              have HUA := Lib.hid (show e2 < ms.length → dn (p2 e2) = false from fun q => hf.2.2.2.resolve_left (by omega))
              clear hf hE10 hm10 HC9 rc0 rc1 rc2 rc3 rc4 rc5 rc6 rc7
              go_wp2_with fail
              go_roundg (gk - 1)
              case measure => have := HKz.out; omega
              case rel => exact ⟨e2, rfl, g2, by have := HKz.out; omega, HNA.out, HUA.out, HEA.out, HMA.out⟩
            · have e1 : (((pk : Nat) : Int) != (i : Int)) = true := by rw [bne_iff_ne]; omega
              have HPi := Lib.hid hpi
              clear hpi
              cases rv with
              | false =>
                have HNx := Lib.hid (HStep.out (.inr rfl))
                clear hrv
                go_wp2_with fail
                clear rc0 rc1 rc2 rc3 rc4 rc5 rc6 rc7 c1
                refine wp_region_classJ (C := fun W => Below wo.heap.size wo W) (by kernel_rfl) (by kernel_rfl) ((Below.refl _ _).drew) ?_
                repeat (
                  refine no_implicit_lambda% (wpQuiet_step ?_)
                  intro K hK
                  go_simp
                  first
                  | (refine no_implicit_lambda% (hK _ ?_); clear hK K)
                  | (apply Exists.intro
                     refine ⟨fun _ => ?_, hK _ ?_⟩
                     (first
                         | (intro hw; obtain ⟨⟨rc0, rc1, rc2, rc3, rc4, rc5, rc6, rc7⟩, c1, ⟨x0, x1, x2, x3, x4, x5, x6⟩, ⟨y0, y1, y2, y3, y4, y5, y6⟩⟩ := HPc2.out _ hw; go_simp; with_reducible exact ⟨rfl, rfl⟩)
                         | (intro hw; obtain ⟨⟨rc0, rc1, rc2, rc3, rc4, rc5, rc6, rc7⟩, c1, ⟨x0, x1, x2, x3, x4, x5, x6⟩, ⟨y0, y1, y2, y3, y4, y5, y6⟩⟩ := HPc2.out _ hw; go_simp; with_reducible rfl)
                         | (intro _; with_reducible rfl)
                         | (intro hw; go_simp; with_reducible exact ⟨rfl, rfl⟩)
                         | (intro hw; go_simp; with_reducible exact rfl))
                     clear hK K))
                refine wpQuiet_nil ?_
                intro w7 hb7
                go_wp2_with fail
                refine wp_region_classJ (C := fun W => Below wo.heap.size wo W) (by kernel_rfl) (by kernel_rfl) hb7.drew ?_
                repeat (
                  refine no_implicit_lambda% (wpQuiet_step ?_)
                  intro K hK
                  go_simp
                  first
                  | (refine no_implicit_lambda% (hK _ ?_); clear hK K)
                  | (apply Exists.intro
                     refine ⟨fun _ => ?_, hK _ ?_⟩
                     (first
                         | (intro hw; with_reducible exact HRd.out _ hw)
                         | (intro hw; obtain ⟨⟨rc0, rc1, rc2, rc3, rc4, rc5, rc6, rc7⟩, c1, ⟨x0, x1, x2, x3, x4, x5, x6⟩, ⟨y0, y1, y2, y3, y4, y5, y6⟩⟩ := HPc2.out _ hw; go_simp; with_reducible exact ⟨rfl, rfl⟩)
                         | (intro hw; obtain ⟨⟨rc0, rc1, rc2, rc3, rc4, rc5, rc6, rc7⟩, c1, ⟨x0, x1, x2, x3, x4, x5, x6⟩, ⟨y0, y1, y2, y3, y4, y5, y6⟩⟩ := HPc2.out _ hw; go_simp; with_reducible rfl)
                         | (intro _; with_reducible rfl)
                         | (intro hw; go_simp; with_reducible exact ⟨rfl, rfl⟩)
                         | (intro hw; go_simp; with_reducible exact rfl))
                     clear hK K))
                refine wpQuiet_nil ?_
                intro w8 hb8
                have HE9 := Lib.hid (RestE.below HE.out hb8)
                have HM9 := Lib.hid (Mut.two HM.out (Below.mut hb8 (mvO L)))
                clear hb8 hb7
                obtain ⟨_, m1, m2, mh, hM9⟩ := HE9.out
                obtain ⟨rc0, rc1, rc2, rc3, rc4, rc5, rc6, rc7⟩ := hM9.rcells
                clear hM9
                have HC9 := Lib.hid (HF.out w8 HE9.out ((k : Int) + 1) (k + 1) (by omega) (by have := HKn.out; omega))
                go_wp2_with fail
                (with_reducible refine HC9.out.mono ?_)
                rintro r w10 ⟨e2, rfl, hf, hE10, hm10⟩
                have HEA := Lib.hid hE10
                have HMA := Lib.hid (Mut.two HM9.out hm10)
                have HNA := Lib.hid (HNx.out.from (fun j a b => hf.2.2.1 j a b))
                have g1 := hf.1
                have g2 := hf.2.1
                have HUA := Lib.hid (show e2 < ms.length → dn (p2 e2) = false from fun q => hf.2.2.2.resolve_left (by omega))
                clear hf hE10 hm10 HC9 rc0 rc1 rc2 rc3 rc4 rc5 rc6 rc7
                go_wp2_with fail
                go_roundg (gk - 1)
                case measure => have := HKz.out; omega
                case rel => exact ⟨e2, rfl, g2, by have := HKz.out; omega, HNA.out, HUA.out, HEA.out, HMA.out⟩
              | true =>
                have HRes := Lib.hid (HYes.out HPi.out rfl)
                have HAp := Lib.hid (HPutA.out HPi.out rfl)
                clear hrv
                go_wp2_with fail
                clear rc0 rc1 rc2 rc3 rc4 rc5 rc6 rc7 c1
                refine wp_region_classJ (C := fun W => Below wo.heap.size wo W) (by kernel_rfl) (by kernel_rfl) ((Below.refl _ _).drew) ?_
                repeat (
                  refine no_implicit_lambda% (wpQuiet_step ?_)
                  intro K hK
                  go_simp
                  first
                  | (refine no_implicit_lambda% (hK _ ?_); clear hK K)
                  | (apply Exists.intro
                     refine ⟨fun _ => ?_, hK _ ?_⟩
                     (first
                         | (intro hw; obtain ⟨⟨rc0, rc1, rc2, rc3, rc4, rc5, rc6, rc7⟩, c1, ⟨x0, x1, x2, x3, x4, x5, x6⟩, ⟨y0, y1, y2, y3, y4, y5, y6⟩⟩ := HPc2.out _ hw; go_simp; with_reducible exact ⟨rfl, rfl⟩)
                         | (intro hw; obtain ⟨⟨rc0, rc1, rc2, rc3, rc4, rc5, rc6, rc7⟩, c1, ⟨x0, x1, x2, x3, x4, x5, x6⟩, ⟨y0, y1, y2, y3, y4, y5, y6⟩⟩ := HPc2.out _ hw; go_simp; with_reducible rfl)
                         | (intro _; with_reducible rfl)
                         | (intro hw; go_simp; with_reducible exact ⟨rfl, rfl⟩)
                         | (intro hw; go_simp; with_reducible exact rfl))
                     clear hK K))
                refine wpQuiet_nil ?_
                intro w7 hb7
                go_wp2_with fail
                refine wp_region_classJ (C := fun W => Below wo.heap.size wo W) (by kernel_rfl) (by kernel_rfl) hb7.drew ?_
                repeat (
                  refine no_implicit_lambda% (wpQuiet_step ?_)
                  intro K hK
                  go_simp
                  first
                  | (refine no_implicit_lambda% (hK _ ?_); clear hK K)
                  | (apply Exists.intro
                     refine ⟨fun _ => ?_, hK _ ?_⟩
                     (first
                         | (intro hw; with_reducible exact HRd.out _ hw)
                         | (intro hw; obtain ⟨⟨rc0, rc1, rc2, rc3, rc4, rc5, rc6, rc7⟩, c1, ⟨x0, x1, x2, x3, x4, x5, x6⟩, ⟨y0, y1, y2, y3, y4, y5, y6⟩⟩ := HPc2.out _ hw; go_simp; with_reducible exact ⟨rfl, rfl⟩)
                         | (intro hw; obtain ⟨⟨rc0, rc1, rc2, rc3, rc4, rc5, rc6, rc7⟩, c1, ⟨x0, x1, x2, x3, x4, x5, x6⟩, ⟨y0, y1, y2, y3, y4, y5, y6⟩⟩ := HPc2.out _ hw; go_simp; with_reducible rfl)
                         | (intro _; with_reducible rfl)
                         | (intro hw; go_simp; with_reducible exact ⟨rfl, rfl⟩)
                         | (intro hw; go_simp; with_reducible exact rfl))
                     clear hK K))
                refine wpQuiet_nil ?_
                intro w8 hb8
                obtain ⟨⟨rc0, rc1, rc2, rc3, rc4, rc5, rc6, rc7⟩, _, _, _⟩ := HPc2.out w8 hb8
                obtain ⟨hE9, ac9, af9⟩ := HPut.out w8 hb8 HAp.out
                have HE9 := Lib.hid hE9
                have HM9 := Lib.hid ((Mut.two HM.out (Below.mut hb8 (mvO L))).trans (mut_setI w8 L.a i (.int .i64 (k : Nat))) (fun _ e => .inl (.inr (.inr (.inr e)))))
                clear hb8 hb7 hE9
                go_wp2_with fail
                go_ret
                rw [HRes.out]
                exact ⟨rfl, HE9.out, HM9.out⟩
        · have hlt : decide ((k : Int) < (ms.length : Int)) = false := by simpa using hkn
          have hlt2 : decide (k < ms.length) = false := by simpa using hkn
          obtain ⟨hlo, n1, n2, ah, hM⟩ := kE
          have HRes := Lib.hid (HNo.out.over (l := dz ms) hM.by2 (fun q => absurd q (by rw [dz_len]; exact hkn)))
          obtain ⟨rc0, rc1, rc2, rc3, rc4, rc5, rc6, rc7⟩ := hM.rcells
          clear hM hkn
          go_wp2_with fail
          go_ret
          rw [HRes.out]
          exact ⟨rfl, HE.out, HM.out⟩
  · obtain rfl : a = -1 := by omega
    have HNone := Lib.hid (HAh.out.next (fun q => absurd q (by omega)))
    clear HPp HTold ha1 ha2 h0 rc0 rc1 rc2 rc3 rc4 rc5 rc6 rc7 ac
    refine wp_region_classJ (C := fun W => Below w.heap.size w W) (by kernel_rfl) (by kernel_rfl) ((Below.refl _ _).drew) ?_
    repeat (
      refine no_implicit_lambda% (wpQuiet_step ?_)
      intro K hK
      go_simp
      first
      | (refine no_implicit_lambda% (hK _ ?_); clear hK K)
      | (apply Exists.intro
         refine ⟨fun _ => ?_, hK _ ?_⟩
         (first
             | (intro hw; obtain ⟨rc0, rc1, rc2, rc3, rc4, rc5, rc6, rc7⟩ := HPc.out _ hw; go_simp; with_reducible exact ⟨rfl, rfl⟩)
             | (intro hw; obtain ⟨rc0, rc1, rc2, rc3, rc4, rc5, rc6, rc7⟩ := HPc.out _ hw; go_simp; with_reducible rfl)
             | (intro _; with_reducible rfl)
             | (intro hw; go_simp; with_reducible exact ⟨rfl, rfl⟩)
             | (intro hw; go_simp; with_reducible exact rfl))
         clear hK K))
    refine wpQuiet_nil ?_
    intro w8 hb8
    have HE := Lib.hid (RestE.below HE0.out hb8)
    have HM := Lib.hid (Below.mut hb8 (mvO L))
    have HC := Lib.hid (HF.out w8 HE.out 0 ((-1 : Int) + 1).toNat (by omega) (by omega))
    clear hb8 HPc
    obtain ⟨_, m1, m2, mh, hM⟩ := HE.out
    obtain ⟨rc0, rc1, rc2, rc3, rc4, rc5, rc6, rc7⟩ := hM.rcells
    clear hM
    go_wp2_with fail
    (with_reducible refine HC.out.mono ?_)
    rintro r w4 ⟨e, rfl, hf, hE4, hm4⟩
    have HE4 := Lib.hid hE4
    have HM4 := Lib.hid (Mut.two HM.out hm4)
    have HN4 := Lib.hid (HNone.out.from (fun j a b => hf.2.2.1 j a b))
    have g4 := hf.2.1
    have HU4 := Lib.hid (show e < ms.length → dn (p2 e) = false from fun q => hf.2.2.2.resolve_left (by omega))
    clear hf hE4 hm4 rc0 rc1 rc2 rc3 rc4 rc5 rc6 rc7 HE HM HNone HC
    go_wp2_with fail
    go_loopg [5, 6] ms.length (fun z iv _ wr => ∃ k : Nat, iv = .int .i64 (k : Nat) ∧ k ≤ ms.length ∧ ms.length ≤ k + z ∧ NoneTo (dz ms) dn p2 i k ∧ (k < ms.length → dn (p2 k) = false) ∧ RestE wr L lo A c ms dn p1 p2 ∧ Mut (mvO L) w wr)
    case atStart => exact ⟨e, rfl, g4, by omega, HN4.out, HU4.out, HE4.out, HM4.out⟩
    case round =>
      obtain ⟨k, rfl, k1, k2, kn, ku, kE, kM⟩ := hrel
      obtain ⟨wo, hwo⟩ : ∃ y, y = wr := ⟨_, rfl⟩
      subst hwo
      have HKz := Lib.hid k2
      have HNo := Lib.hid kn
      have HUn := Lib.hid ku
      have HE := Lib.hid kE
      have HM := Lib.hid kM
      clear kn ku kM HN4 HU4 HE4 HM4 k2
      by_cases hkn : k < ms.length
      · have hlt : decide ((k : Int) < (ms.length : Int)) = true := by simpa using hkn
        have hlt2 : decide (k < ms.length) = true := by simpa using hkn
        obtain ⟨hlo, n1, n2, ah, hM⟩ := kE
        have hpk := RestE.in2 HE.out hkn
        obtain ⟨b, o, rfl, hbl, hs1, hs2⟩ := hM.row.elem2 hpk hi
        have hfx := hM.few _ (List.getElem_mem hpk)
        have hfy := hM.few _ (List.getElem_mem hi)
        have hox := (hM.row.2.2.2.2 _ (List.getElem_mem hpk)).below (Below.refl lo _) (Nat.le_refl _) hlo
        have hoy := (hM.row.2.2.2.2 _ (List.getElem_mem hi)).below (Below.refl lo _) (Nat.le_refl _) hlo
        have HOver := Lib.hid (fun (q : (ms[i]'hi).d.at_ ≤ (ms[p2 k]'hpk).d.began) => HNo.out.over (l := dz ms) hM.by2 (fun _ => by rw [dz_at hpk, dz_at hi]; exact q))
        have HYes := Lib.hid (fun (q1 : p2 k ≠ i) (q : readsZ (ms[p2 k]'hpk).d (ms[i]'hi).d = true) => waitR_yes (l := dz ms) (dn := dn) (x := p2 k) (i := i) (by rw [dz_len]; exact hpk) q1 (HUn.out hkn) (by rw [dz_at hpk, dz_at hi]; exact q))
        have HPutA := Lib.hid (fun (q1 : p2 k ≠ i) (q : readsZ (ms[p2 k]'hpk).d (ms[i]'hi).d = true) => AheadP.put (l := dz ms) (by rw [dz_len]; exact hkn) HNo.out q1 (by rw [dz_at hpk, dz_at hi]; exact q))
        have HStep := Lib.hid (fun (q : p2 k = i ∨ readsZ (ms[p2 k]'hpk).d (ms[i]'hi).d = false) => HNo.out.step (l := dz ms) (by rw [dz_at hpk, dz_at hi]; exact q))
        have HRd := Lib.hid (fun (W : World) (hW : Below wo.heap.size wo W) => (dReads_any HK.out _ _ W hfx hfy (hox.below hW (Nat.le_refl _) hW.size) (hoy.below hW (Nat.le_refl _) hW.size)).mono fun r w' (q : r = .returned (.bool (readsZ (ms[p2 k]'hpk).d (ms[i]'hi).d)) ∧ Below W.heap.size W w') => (⟨q.1, hW.trans (q.2.mono hW.size)⟩ : r = .returned (.bool (readsZ (ms[p2 k]'hpk).d (ms[i]'hi).d)) ∧ Below wo.heap.size wo w'))
        have HPc2 := Lib.hid (fun (W : World) (hW : Below wo.heap.size wo W) => And.intro ((hM.below hlo hW).rcells) (And.intro ((hM.below hlo hW).r2.pl.cell hkn) (And.intro ((hs1.below hW (by omega)).all) ((hs2.below hW (by omega)).all))))
        have HPut := Lib.hid (fun (W : World) (hW : Below wo.heap.size wo W) (q : AheadP (dz ms) dn p2 i (k : Nat)) => And.intro (show RestE (W.setCell ⟨L.a, i, none⟩ (.int .i64 (k : Nat))) L lo (some ⟨b, o, none⟩) c ms dn p1 p2 from ⟨by simp [World.setCell]; exact Nat.le_trans hlo hW.size, _, _, _, (hM.below hlo hW).put (Nat.le_trans hlo hW.size) q⟩) (And.intro ((hM.below hlo hW).ahd.cell hi) ((hM.below hlo hW).ahd.frozen i)))
        have HKn := Lib.hid hkn
        clear hs1 hs2 hfx hfy hox hoy hM hkn k1
        generalize ms[p2 k]'hpk = x at *
        generalize ms[i]'hi = y at *
        have hpk2 : ((p2 k : Nat) : Int) < (ms.length : Int) := by omega
        have q2 : ((k : Nat) : Int) < (ms.length : Int) := by simpa using hlt
        have HPk := Lib.hid hpk
        clear hpk
        obtain ⟨⟨xi, xb, xa, xs, xe, xr, xw⟩, xA, xc, xB, xd⟩ := x
        obtain ⟨⟨yi, yb, ya, ys, ye, yr, yw⟩, yA, yc, yB, yd⟩ := y
        unfold mzVal at HRd
        simp only at HRd HPc2 HOver HYes HPutA HStep
        obtain ⟨⟨rc0, rc1, rc2, rc3, rc4, rc5, rc6, rc7⟩, c1, _, _⟩ := HPc2.out wo (Below.refl _ _)
        generalize hrv : readsZ ⟨xi, xb, xa, xs, xe, xr, xw⟩ ⟨yi, yb, ya, ys, ye, yr, yw⟩ = rv at *
        generalize p2 k = pk at *
        have hbo := Below.refl wo.heap.size wo
        by_cases hge : ya ≤ xb
        · have d1 : decide ((xb : Int) ≥ (ya : Int)) = true := by simpa using hge
          have d2 : decide (ya ≤ xb) = true := by simpa using hge
          have d3 : decide ((ya : Int) ≤ (xb : Int)) = true := by simpa using hge
          have HRes := Lib.hid (HOver.out hge)
          clear hge hrv
          go_wp2_with fail
          clear rc0 rc1 rc2 rc3 rc4 rc5 rc6 rc7 c1
          refine wp_region_classJ (C := fun W => Below wo.heap.size wo W) (by kernel_rfl) (by kernel_rfl) ((Below.refl _ _).drew) ?_
          repeat (
            refine no_implicit_lambda% (wpQuiet_step ?_)
            intro K hK
            go_simp
            first
            | (refine no_implicit_lambda% (hK _ ?_); clear hK K)
            | (apply Exists.intro
               refine ⟨fun _ => ?_, hK _ ?_⟩
               (first
                   | (intro hw; obtain ⟨⟨rc0, rc1, rc2, rc3, rc4, rc5, rc6, rc7⟩, c1, ⟨x0, x1, x2, x3, x4, x5, x6⟩, ⟨y0, y1, y2, y3, y4, y5, y6⟩⟩ := HPc2.out _ hw; go_simp; with_reducible exact ⟨rfl, rfl⟩)
                   | (intro hw; obtain ⟨⟨rc0, rc1, rc2, rc3, rc4, rc5, rc6, rc7⟩, c1, ⟨x0, x1, x2, x3, x4, x5, x6⟩, ⟨y0, y1, y2, y3, y4, y5, y6⟩⟩ := HPc2.out _ hw; go_simp; with_reducible rfl)
                   | (intro _; with_reducible rfl)
                   | (intro hw; go_simp; with_reducible exact ⟨rfl, rfl⟩)
                   | (intro hw; go_simp; with_reducible exact rfl))
               clear hK K))
          refine wpQuiet_nil ?_
          intro w8 hb8
          have HE9 := Lib.hid (RestE.below HE.out hb8)
          have HM9 := Lib.hid (Mut.two HM.out (Below.mut hb8 (mvO L)))
          clear hb8
          go_wp2_with fail
          go_ret
          rw [HRes.out]
          exact ⟨rfl, HE9.out, HM9.out⟩
        · have d1 : decide ((xb : Int) ≥ (ya : Int)) = false := by simpa using (by omega : xb < ya)
          have d2 : decide (ya ≤ xb) = false := by simpa using (by omega : xb < ya)
          have d3 : decide ((ya : Int) ≤ (xb : Int)) = false := by simpa using (by omega : xb < ya)
          clear hge
          by_cases hpi : pk = i
          · have e1 : (((pk : Nat) : Int) != (i : Int)) = false := by rw [bne_eq_false_iff_eq]; omega
            have HNx := Lib.hid (HStep.out (.inl hpi))
            clear hpi hrv
            go_wp2_with fail
            clear rc0 rc1 rc2 rc3 rc4 rc5 rc6 rc7 c1
            refine wp_region_classJ (C := fun W => Below wo.heap.size wo W) (by kernel_rfl) (by kernel_rfl) ((Below.refl _ _).drew) ?_
            repeat (
              refine no_implicit_lambda% (wpQuiet_step ?_)
              intro K hK
              go_simp
              first
              | (refine no_implicit_lambda% (hK _ ?_); clear hK K)
              | (apply Exists.intro
                 refine ⟨fun _ => ?_, hK _ ?_⟩
                 (first
                     | (intro hw; obtain ⟨⟨rc0, rc1, rc2, rc3, rc4, rc5, rc6, rc7⟩, c1, ⟨x0, x1, x2, x3, x4, x5, x6⟩, ⟨y0, y1, y2, y3, y4, y5, y6⟩⟩ := HPc2.out _ hw; go_simp; with_reducible exact ⟨rfl, rfl⟩)
                     | (intro hw; obtain ⟨⟨rc0, rc1, rc2, rc3, rc4, rc5, rc6, rc7⟩, c1, ⟨x0, x1, x2, x3, x4, x5, x6⟩, ⟨y0, y1, y2, y3, y4, y5, y6⟩⟩ := HPc2.out _ hw; go_simp; with_reducible rfl)
                     | (intro _; with_reducible rfl)
                     | (intro hw; go_simp; with_reducible exact ⟨rfl, rfl⟩)
                     | (intro hw; go_simp; with_reducible exact rfl))
                 clear hK K))
            refine wpQuiet_nil ?_
            intro w7 hb7
            go_wp2_with fail
            refine wp_region_classJ (C := fun W => Below wo.heap.size wo W) (by kernel_rfl) (by kernel_rfl) hb7.drew ?_
            repeat (
              refine no_implicit_lambda% (wpQuiet_step ?_)
              intro K hK
              go_simp
              first
              | (refine no_implicit_lambda% (hK _ ?_); clear hK K)
              | (apply Exists.intro
                 refine ⟨fun _ => ?_, hK _ ?_⟩
                 (first
                     | (intro hw; obtain ⟨⟨rc0, rc1, rc2, rc3, rc4, rc5, rc6, rc7⟩, c1, ⟨x0, x1, x2, x3, x4, x5, x6⟩, ⟨y0, y1, y2, y3, y4, y5, y6⟩⟩ := HPc2.out _ hw; go_simp; with_reducible exact ⟨rfl, rfl⟩)
                     | (intro hw; obtain ⟨⟨rc0, rc1, rc2, rc3, rc4, rc5, rc6, rc7⟩, c1, ⟨x0, x1, x2, x3, x4, x5, x6⟩, ⟨y0, y1, y2, y3, y4, y5, y6⟩⟩ := HPc2.out _ hw; go_simp; with_reducible rfl)
                     | (intro _; with_reducible rfl)
                     | (intro hw; go_simp; with_reducible exact ⟨rfl, rfl⟩)
                     | (intro hw; go_simp; with_reducible exact rfl))
                 clear hK K))
            refine wpQuiet_nil ?_
            intro w8 hb8
            have HE9 := Lib.hid (RestE.below HE.out hb8)
            have HM9 := Lib.hid (Mut.two HM.out (Below.mut hb8 (mvO L)))
            clear hb8 hb7
            obtain ⟨_, m1, m2, mh, hM9⟩ := HE9.out
            obtain ⟨rc0, rc1, rc2, rc3, rc4, rc5, rc6, rc7⟩ := hM9.rcells
            clear hM9
            have HC9 := Lib.hid (HF.out w8 HE9.out ((k : Int) + 1) (k + 1) (by omega) (by have := HKn.out; omega))
            go_wp2_with fail
            (with_reducible refine HC9.out.mono ?_)
            rintro r w10 ⟨e2, rfl, hf, hE10, hm10⟩
            have HEA := Lib.hid hE10
            have HMA := Lib.hid (Mut.two HM9.out hm10)
            have HNA := Lib.hid (HNx.out.from (fun j a b => hf.2.2.1 j a b))
            have g1 := hf.1
            have g2 := hf.2.1
            have HUA := Lib.hid (show e2 < ms.length → dn (p2 e2) = false from fun q => hf.2.2.2.resolve_left (by omega))
            clear hf hE10 hm10 HC9 rc0 rc1 rc2 rc3 rc4 rc5 rc6 rc7
            go_wp2_with fail
            go_roundg (gk - 1)
            case measure => have := HKz.out; omega
            case rel => exact ⟨e2, rfl, g2, by have := HKz.out; omega, HNA.out, HUA.out, HEA.out, HMA.out⟩
          · have e1 : (((pk : Nat) : Int) != (i : Int)) = true := by rw [bne_iff_ne]; omega
            have HPi := Lib.hid hpi
            clear hpi
            cases rv with
            | false =>
              have HNx := Lib.hid (HStep.out (.inr rfl))
              clear hrv
              go_wp2_with fail
              clear rc0 rc1 rc2 rc3 rc4 rc5 rc6 rc7 c1
              refine wp_region_classJ (C := fun W => Below wo.heap.size wo W) (by kernel_rfl) (by kernel_rfl) ((Below.refl _ _).drew) ?_
              repeat (
                refine no_implicit_lambda% (wpQuiet_step ?_)
                intro K hK
                go_simp
                first
                | (refine no_implicit_lambda% (hK _ ?_); clear hK K)
                | (apply Exists.intro
                   refine ⟨fun _ => ?_, hK _ ?_⟩
                   (first
                       | (intro hw; obtain ⟨⟨rc0, rc1, rc2, rc3, rc4, rc5, rc6, rc7⟩, c1, ⟨x0, x1, x2, x3, x4, x5, x6⟩, ⟨y0, y1, y2, y3, y4, y5, y6⟩⟩ := HPc2.out _ hw; go_simp; with_reducible exact ⟨rfl, rfl⟩)
                       | (intro hw; obtain ⟨⟨rc0, rc1, rc2, rc3, rc4, rc5, rc6, rc7⟩, c1, ⟨x0, x1, x2, x3, x4, x5, x6⟩, ⟨y0, y1, y2, y3, y4, y5, y6⟩⟩ := HPc2.out _ hw; go_simp; with_reducible rfl)
                       | (intro _; with_reducible rfl)
                       | (intro hw; go_simp; with_reducible exact ⟨rfl, rfl⟩)
                       | (intro hw; go_simp; with_reducible exact rfl))
                   clear hK K))
              refine wpQuiet_nil ?_
              intro w7 hb7
              go_wp2_with fail
              refine wp_region_classJ (C := fun W => Below wo.heap.size wo W) (by kernel_rfl) (by kernel_rfl) hb7.drew ?_
              repeat (
                refine no_implicit_lambda% (wpQuiet_step ?_)
                intro K hK
                go_simp
                first
                | (refine no_implicit_lambda% (hK _ ?_); clear hK K)
                | (apply Exists.intro
                   refine ⟨fun _ => ?_, hK _ ?_⟩
                   (first
                       | (intro hw; with_reducible exact HRd.out _ hw)
                       | (intro hw; obtain ⟨⟨rc0, rc1, rc2, rc3, rc4, rc5, rc6, rc7⟩, c1, ⟨x0, x1, x2, x3, x4, x5, x6⟩, ⟨y0, y1, y2, y3, y4, y5, y6⟩⟩ := HPc2.out _ hw; go_simp; with_reducible exact ⟨rfl, rfl⟩)
                       | (intro hw; obtain ⟨⟨rc0, rc1, rc2, rc3, rc4, rc5, rc6, rc7⟩, c1, ⟨x0, x1, x2, x3, x4, x5, x6⟩, ⟨y0, y1, y2, y3, y4, y5, y6⟩⟩ := HPc2.out _ hw; go_simp; with_reducible rfl)
                       | (intro _; with_reducible rfl)
                       | (intro hw; go_simp; with_reducible exact ⟨rfl, rfl⟩)
                       | (intro hw; go_simp; with_reducible exact rfl))
                   clear hK K))
              refine wpQuiet_nil ?_
              intro w8 hb8
              have HE9 := Lib.hid (RestE.below HE.out hb8)
              have HM9 := Lib.hid (Mut.two HM.out (Below.mut hb8 (mvO L)))
              clear hb8 hb7
              obtain ⟨_, m1, m2, mh, hM9⟩ := HE9.out
              obtain ⟨rc0, rc1, rc2, rc3, rc4, rc5, rc6, rc7⟩ := hM9.rcells
              clear hM9
              have HC9 := Lib.hid (HF.out w8 HE9.out ((k : Int) + 1) (k + 1) (by omega) (by have := HKn.out; omega))
              go_wp2_with fail
              (with_reducible refine HC9.out.mono ?_)
              rintro r w10 ⟨e2, rfl, hf, hE10, hm10⟩
              have HEA := Lib.hid hE10
              have HMA := Lib.hid (Mut.two HM9.out hm10)
              have HNA := Lib.hid (HNx.out.from (fun j a b => hf.2.2.1 j a b))
              have g1 := hf.1
              have g2 := hf.2.1
              have HUA := Lib.hid (show e2 < ms.length → dn (p2 e2) = false from fun q => hf.2.2.2.resolve_left (by omega))
              clear hf hE10 hm10 HC9 rc0 rc1 rc2 rc3 rc4 rc5 rc6 rc7
              go_wp2_with fail
              go_roundg (gk - 1)
              case measure => have := HKz.out; omega
              case rel => exact ⟨e2, rfl, g2, by have := HKz.out; omega, HNA.out, HUA.out, HEA.out, HMA.out⟩
            | true =>
              have HRes := Lib.hid (HYes.out HPi.out rfl)
              have HAp := Lib.hid (HPutA.out HPi.out rfl)
              clear hrv
              go_wp2_with fail
              clear rc0 rc1 rc2 rc3 rc4 rc5 rc6 rc7 c1
              refine wp_region_classJ (C := fun W => Below wo.heap.size wo W) (by kernel_rfl) (by kernel_rfl) ((Below.refl _ _).drew) ?_
              repeat (
                refine no_implicit_lambda% (wpQuiet_step ?_)
                intro K hK
                go_simp
                first
                | (refine no_implicit_lambda% (hK _ ?_); clear hK K)
                | (apply Exists.intro
                   refine ⟨fun _ => ?_, hK _ ?_⟩
                   (first
                       | (intro hw; obtain ⟨⟨rc0, rc1, rc2, rc3, rc4, rc5, rc6, rc7⟩, c1, ⟨x0, x1, x2, x3, x4, x5, x6⟩, ⟨y0, y1, y2, y3, y4, y5, y6⟩⟩ := HPc2.out _ hw; go_simp; with_reducible exact ⟨rfl, rfl⟩)
                       | (intro hw; obtain ⟨⟨rc0, rc1, rc2, rc3, rc4, rc5, rc6, rc7⟩, c1, ⟨x0, x1, x2, x3, x4, x5, x6⟩, ⟨y0, y1, y2, y3, y4, y5, y6⟩⟩ := HPc2.out _ hw; go_simp; with_reducible rfl)
                       | (intro _; with_reducible rfl)
                       | (intro hw; go_simp; with_reducible exact ⟨rfl, rfl⟩)
                       | (intro hw; go_simp; with_reducible exact rfl))
                   clear hK K))
              refine wpQuiet_nil ?_
              intro w7 hb7
              go_wp2_with fail
              refine wp_region_classJ (C := fun W => Below wo.heap.size wo W) (by kernel_rfl) (by kernel_rfl) hb7.drew ?_
              repeat (
                refine no_implicit_lambda% (wpQuiet_step ?_)
                intro K hK
                go_simp
                first
                | (refine no_implicit_lambda% (hK _ ?_); clear hK K)
                | (apply Exists.intro
                   refine ⟨fun _ => ?_, hK _ ?_⟩
                   (first
                       | (intro hw; with_reducible exact HRd.out _ hw)
                       | (intro hw; obtain ⟨⟨rc0, rc1, rc2, rc3, rc4, rc5, rc6, rc7⟩, c1, ⟨x0, x1, x2, x3, x4, x5, x6⟩, ⟨y0, y1, y2, y3, y4, y5, y6⟩⟩ := HPc2.out _ hw; go_simp; with_reducible exact ⟨rfl, rfl⟩)
                       | (intro hw; obtain ⟨⟨rc0, rc1, rc2, rc3, rc4, rc5, rc6, rc7⟩, c1, ⟨x0, x1, x2, x3, x4, x5, x6⟩, ⟨y0, y1, y2, y3, y4, y5, y6⟩⟩ := HPc2.out _ hw; go_simp; with_reducible rfl)
                       | (intro _; with_reducible rfl)
                       | (intro hw; go_simp; with_reducible exact ⟨rfl, rfl⟩)
                       | (intro hw; go_simp; with_reducible exact rfl))
                   clear hK K))
              refine wpQuiet_nil ?_
              intro w8 hb8
              obtain ⟨⟨rc0, rc1, rc2, rc3, rc4, rc5, rc6, rc7⟩, _, _, _⟩ := HPc2.out w8 hb8
              obtain ⟨hE9, ac9, af9⟩ := HPut.out w8 hb8 HAp.out
              have HE9 := Lib.hid hE9
              have HM9 := Lib.hid ((Mut.two HM.out (Below.mut hb8 (mvO L))).trans (mut_setI w8 L.a i (.int .i64 (k : Nat))) (fun _ e => .inl (.inr (.inr (.inr e)))))
              clear hb8 hb7 hE9
              go_wp2_with fail
              go_ret
              rw [HRes.out]
              exact ⟨rfl, HE9.out, HM9.out⟩
      · have hlt : decide ((k : Int) < (ms.length : Int)) = false := by simpa using hkn
        have hlt2 : decide (k < ms.length) = false := by simpa using hkn
        obtain ⟨hlo, n1, n2, ah, hM⟩ := kE
        have HRes := Lib.hid (HNo.out.over (l := dz ms) hM.by2 (fun q => absurd q (by rw [dz_len]; exact hkn)))
        obtain ⟨rc0, rc1, rc2, rc3, rc4, rc5, rc6, rc7⟩ := hM.rcells
        clear hM hkn
        go_wp2_with fail
        go_ret
        rw [HRes.out]
        exact ⟨rfl, HE.out, HM.out⟩
end Go.Proofs.Ytfdiidhilonkoaa
