import Derived.Test.YtfdiidhilonkoaaZC27
set_option linter.unusedVariables false
/-
  Package order: does one of those that are left wait for another one's end?
-/
namespace Go.Proofs.Ytfdiidhilonkoaa
open Go.RowKit

set_option maxRecDepth 100000 in
set_option maxHeartbeats 8000000 in
theorem dWaitE_any (w : World) (L : LayO) (lo : Nat) (A : Option Addr) (c : Nat) (ms : List MZ) (dn : Nat → Bool) (p1 p2 : Nat → Nat) (h : RestE w L lo A c ms dn p1 p2) (i : Nat) (hi : i < ms.length) (hd : dn i = false) :
    Calls Try.prog 37 #[.pointer (some ⟨L.r, 0, none⟩), .int .i64 (i : Nat)] w fun r w' => r = .returned (.bool (waitE (dz ms) dn i)) ∧ RestE w' L lo A c ms dn p1 p2 ∧ Mut (mvO L) w w' := by
  have hF := fun (V : World) (hV : RestE V L lo A c ms dn p1 p2) => from1_any hV
  have HF := Lib.hid hF
  have HE0 := Lib.hid h
  have HD := Lib.hid hd
  obtain ⟨hlo0, m1, m2, mh, hM0⟩ := h
  have HBy := Lib.hid hM0.by1
  obtain ⟨rc0, rc1, rc2, rc3, rc4, rc5, rc6, rc7⟩ := hM0.rcells
  have h0 := HF.out w HE0.out 0 0 rfl (Nat.zero_le _)
  have HC0 := Lib.hid h0
  clear hF h0 hM0 hlo0 hd
  go_enter Try.func37, Try.ntmps37
  go_wp2_with fail
  (with_reducible refine HC0.out.mono ?_)
  rintro r w1 ⟨e, rfl, hf, hE, hm⟩
  have hen : e < ms.length := by
    rcases Nat.lt_or_ge e ms.length with z | z
    · exact z
    · exfalso
      obtain ⟨j, hj, q⟩ := HBy.out.all i (by rw [dz_len]; exact hi)
      rw [dz_len] at hj
      have := hf.2.2.1 j (Nat.zero_le _) (by omega)
      rw [q, HD.out] at this
      cases this
  have hde : dn (p1 e) = false := hf.2.2.2.resolve_left (by omega)
  have HFp := Lib.hid hf
  have HDe := Lib.hid hde
  have HE1 := Lib.hid hE
  have HM1 := Lib.hid hm
  have HC1 := Lib.hid (HF.out w1 hE ((e : Int) + 1) (e + 1) (by omega) (by omega))
  obtain ⟨_, m1, m2, mh, hM1⟩ := hE
  clear rc0 rc1 rc2 rc3 rc4 rc5 rc6 rc7 HC0
  obtain ⟨rc0, rc1, rc2, rc3, rc4, rc5, rc6, rc7⟩ := hM1.rcells
  have pc := hM1.r1.pl.cell hen
  have q0 : (e : Int) < (ms.length : Int) := by omega
  have q9 : (ms.length : Int) ≤ 1000 := by have := hM1.len; omega
  clear hf hde hm hM1
  by_cases hp : p1 e = i
  · have hb1 : (((p1 e : Nat) : Int) == (i : Int)) = true := by rw [beq_iff_eq]; omega
    have HP := Lib.hid hp
    have HEn0 := Lib.hid hen
    clear hp hen
    generalize hpe : p1 e = pe at *
    have HPe := Lib.hid hpe
    clear hpe
    go_wp2_with fail
    (with_reducible refine HC1.out.mono ?_)
    rintro r w2 ⟨k, rfl, hf2, hE2, hm2⟩
    have HE := Lib.hid hE2
    have HM := Lib.hid (Mut.two HM1.out hm2)
    have HKle := Lib.hid hf2.2.1
    have HAll := Lib.hid (show ∀ j, j < k → dn (p1 j) = true ∨ p1 j = i from fun j hj => by
      rcases Nat.lt_trichotomy j e with z | z | z
      · exact .inl (HFp.out.2.2.1 j (Nat.zero_le _) z)
      · right; rw [z, HPe.out, HP.out]
      · exact .inl (hf2.2.2.1 j (by omega) hj))
    have HUn := Lib.hid (show k < ms.length → dn (p1 k) = false ∧ p1 k ≠ i from fun hk => ⟨hf2.2.2.2.resolve_left (by omega), fun q => by
      have := HBy.out.inj (by rw [dz_len]; exact hk) (by rw [dz_len]; exact HEn0.out) (show p1 k = p1 e by rw [q, HPe.out, HP.out])
      have := hf2.1
      omega⟩)
    clear rc0 rc1 rc2 rc3 rc4 rc5 rc6 rc7 pc hb1 q0 hf2 hE2 hm2
    by_cases hkn : k < ms.length
    · have hlt : decide ((k : Int) < (ms.length : Int)) = true := by simpa using hkn
      have hlt2 : decide (k < ms.length) = true := by simpa using hkn
      obtain ⟨hlo, n1, n2, ah, hM⟩ := HE.out
      have hpk := RestE.in1 HE.out hkn
      obtain ⟨b, o, rfl, hbl, hs1, hs2⟩ := hM.row.elem2 hpk hi
      have hfx := hM.few _ (List.getElem_mem hpk)
      have hfy := hM.few _ (List.getElem_mem hi)
      have hox := (hM.row.2.2.2.2 _ (List.getElem_mem hpk)).below (Below.refl lo _) (Nat.le_refl _) hlo
      have hoy := (hM.row.2.2.2.2 _ (List.getElem_mem hi)).below (Below.refl lo _) (Nat.le_refl _) hlo
      have HRes := Lib.hid (show waitE (dz ms) dn i = endsZ (ms[p1 k]'hpk).d (ms[i]'hi).d by
        cases q : endsZ (ms[p1 k]'hpk).d (ms[i]'hi).d with
        | true =>
          refine waitE_yes (x := p1 k) (by rw [dz_len]; exact hpk) (HUn.out hkn).2 (HUn.out hkn).1 ?_
          rw [dz_at hpk, dz_at hi]
          simpa [endsZ] using q
        | false =>
          refine waitE_no hM.by1 (k := k) HAll.out (fun _ => ?_) (by rw [dz_len]; omega)
          rw [dz_at hpk, dz_at hi]
          simpa [endsZ] using q)
      have HEn := Lib.hid (fun (V : World) (hV : Below w2.heap.size w2 V) => (dEnds_any _ _ V hfx hfy (hox.below hV (Nat.le_refl _) hV.size) (hoy.below hV (Nat.le_refl _) hV.size)).mono fun r w' (q : r = .returned (.bool (endsZ (ms[p1 k]'hpk).d (ms[i]'hi).d)) ∧ Below V.heap.size V w') => (⟨q.1, hV.trans (q.2.mono hV.size)⟩ : r = .returned (.bool (endsZ (ms[p1 k]'hpk).d (ms[i]'hi).d)) ∧ Below w2.heap.size w2 w'))
      have HPc := Lib.hid (fun (V : World) (hV : Below w2.heap.size w2 V) => And.intro ((hM.below hlo hV).rcells) (And.intro ((hM.below hlo hV).r1.pl.cell hkn) (And.intro ((hs1.below hV (by omega)).all) ((hs2.below hV (by omega)).all))))
      have HLen := Lib.hid hM.row.1
      clear hs1 hs2 hfx hfy hox hoy hM hkn
      generalize ms[p1 k]'hpk = x at *
      generalize ms[i]'hi = y at *
      have HPk := Lib.hid hpk
      have q1 : ((p1 k : Nat) : Int) < (ms.length : Int) := by omega
      have q2 : ((k : Nat) : Int) < (ms.length : Int) := by simpa using hlt
      have q3 : (i : Int) < (ms.length : Int) := by omega
      clear hpk
      obtain ⟨⟨xi, xb, xa, xs, xe, xr, xw⟩, xA, xc, xB, xd⟩ := x
      obtain ⟨⟨yi, yb, ya, ys, ye, yr, yw⟩, yA, yc, yB, yd⟩ := y
      unfold mzVal at HEn
      simp only at HEn HPc HRes
      generalize endsZ ⟨xi, xb, xa, xs, xe, xr, xw⟩ ⟨yi, yb, ya, ys, ye, yr, yw⟩ = ev at *
      generalize p1 k = pk at *
      go_wp2_with fail
      refine wp_region_classJ (C := fun W => Below w2.heap.size w2 W) (by kernel_rfl) (by kernel_rfl) ((Below.refl _ _).drew) ?_
      repeat (
        refine no_implicit_lambda% (wpQuiet_step ?_)
        intro K hK
        go_simp
        first
        | (refine no_implicit_lambda% (hK _ ?_); clear hK K)
        | (apply Exists.intro
           refine ⟨fun _ => ?_, hK _ ?_⟩
           (first
               | (intro hw; with_reducible exact HEn.out _ hw)
               | (intro hw; obtain ⟨⟨rc0, rc1, rc2, rc3, rc4, rc5, rc6, rc7⟩, c1, ⟨x0, x1, x2, x3, x4, x5, x6⟩, ⟨y0, y1, y2, y3, y4, y5, y6⟩⟩ := HPc.out _ hw; go_simp; with_reducible exact ⟨rfl, rfl⟩)
               | (intro hw; obtain ⟨⟨rc0, rc1, rc2, rc3, rc4, rc5, rc6, rc7⟩, c1, ⟨x0, x1, x2, x3, x4, x5, x6⟩, ⟨y0, y1, y2, y3, y4, y5, y6⟩⟩ := HPc.out _ hw; go_simp; with_reducible rfl)
               | (intro _; with_reducible rfl)
               | (intro hw; go_simp; with_reducible exact ⟨rfl, rfl⟩)
               | (intro hw; go_simp; with_reducible exact rfl))
           clear hK K))
      refine wpQuiet_nil ?_
      intro w8 hb8
      have HE8 := Lib.hid (RestE.below HE.out hb8)
      have HM8 := Lib.hid (Mut.two HM.out (Below.mut hb8 (mvO L)))
      clear hb8 HEn HPc
      go_wp2_with fail
      go_ret
      rw [HRes.out]
      exact ⟨rfl, HE8.out, HM8.out⟩
    · have hlt : decide ((k : Int) < (ms.length : Int)) = false := by simpa using hkn
      have hlt2 : decide (k < ms.length) = false := by simpa using hkn
      obtain ⟨hlo, n1, n2, ah, hM⟩ := HE.out
      have HRes := Lib.hid (show waitE (dz ms) dn i = false from waitE_no hM.by1 (k := k) HAll.out (fun q => absurd q (by rw [dz_len]; exact hkn)) (by rw [dz_len]; exact HKle.out))
      have HPc := Lib.hid (fun (V : World) (hV : Below w2.heap.size w2 V) => (hM.below hlo hV).rcells)
      clear hM hkn
      go_wp2_with fail
      refine wp_region_classJ (C := fun W => Below w2.heap.size w2 W) (by kernel_rfl) (by kernel_rfl) ((Below.refl _ _).drew) ?_
      repeat (
        refine no_implicit_lambda% (wpQuiet_step ?_)
        intro K hK
        go_simp
        first
        | (refine no_implicit_lambda% (hK _ ?_); clear hK K)
        | (apply Exists.intro
           refine ⟨fun _ => ?_, hK _ ?_⟩
           (first
               | (intro hw; obtain ⟨rc0, rc1, rc2, rc3, rc4, rc5, rc6, rc7⟩ := HPc.out _ hw; go_simp; with_reducible exact ⟨rfl, rfl⟩)
               | (intro hw; obtain ⟨rc0, rc1, rc2, rc3, rc4, rc5, rc6, rc7⟩ := HPc.out _ hw; go_simp; with_reducible rfl)
               | (intro _; with_reducible rfl)
               | (intro hw; go_simp; with_reducible exact ⟨rfl, rfl⟩)
               | (intro hw; go_simp; with_reducible exact rfl))
           clear hK K))
      refine wpQuiet_nil ?_
      intro w8 hb8
      have HE8 := Lib.hid (RestE.below HE.out hb8)
      have HM8 := Lib.hid (Mut.two HM.out (Below.mut hb8 (mvO L)))
      clear hb8 HPc
      go_wp2_with fail
      go_ret
      rw [HRes.out]
      exact ⟨rfl, HE8.out, HM8.out⟩
  · have hb1 : (((p1 e : Nat) : Int) == (i : Int)) = false := by rw [beq_eq_false_iff_ne]; omega
    have HE := Lib.hid HE1.out
    have HM := Lib.hid HM1.out
    have HKle := Lib.hid (Nat.le_of_lt hen)
    have HAll := Lib.hid (show ∀ j, j < e → dn (p1 j) = true ∨ p1 j = i from fun j hj => .inl (HFp.out.2.2.1 j (Nat.zero_le _) hj))
    have HUn := Lib.hid (show e < ms.length → dn (p1 e) = false ∧ p1 e ≠ i from fun _ => ⟨HDe.out, hp⟩)
    clear hp hen
    have HB1 := Lib.hid hb1
    go_upto_region 4 with fail
    clear rc0 rc1 rc2 rc3 rc4 rc5 rc6 rc7 pc hb1 q0
    by_cases hkn : e < ms.length
    · have hlt : decide ((e : Int) < (ms.length : Int)) = true := by simpa using hkn
      have hlt2 : decide (e < ms.length) = true := by simpa using hkn
      obtain ⟨hlo, n1, n2, ah, hM⟩ := HE.out
      have hpk := RestE.in1 HE.out hkn
      obtain ⟨b, o, rfl, hbl, hs1, hs2⟩ := hM.row.elem2 hpk hi
      have hfx := hM.few _ (List.getElem_mem hpk)
      have hfy := hM.few _ (List.getElem_mem hi)
      have hox := (hM.row.2.2.2.2 _ (List.getElem_mem hpk)).below (Below.refl lo _) (Nat.le_refl _) hlo
      have hoy := (hM.row.2.2.2.2 _ (List.getElem_mem hi)).below (Below.refl lo _) (Nat.le_refl _) hlo
      have HRes := Lib.hid (show waitE (dz ms) dn i = endsZ (ms[p1 e]'hpk).d (ms[i]'hi).d by
        cases q : endsZ (ms[p1 e]'hpk).d (ms[i]'hi).d with
        | true =>
          refine waitE_yes (x := p1 e) (by rw [dz_len]; exact hpk) (HUn.out hkn).2 (HUn.out hkn).1 ?_
          rw [dz_at hpk, dz_at hi]
          simpa [endsZ] using q
        | false =>
          refine waitE_no hM.by1 (k := e) HAll.out (fun _ => ?_) (by rw [dz_len]; omega)
          rw [dz_at hpk, dz_at hi]
          simpa [endsZ] using q)
      have HEn := Lib.hid (fun (V : World) (hV : Below w1.heap.size w1 V) => (dEnds_any _ _ V hfx hfy (hox.below hV (Nat.le_refl _) hV.size) (hoy.below hV (Nat.le_refl _) hV.size)).mono fun r w' (q : r = .returned (.bool (endsZ (ms[p1 e]'hpk).d (ms[i]'hi).d)) ∧ Below V.heap.size V w') => (⟨q.1, hV.trans (q.2.mono hV.size)⟩ : r = .returned (.bool (endsZ (ms[p1 e]'hpk).d (ms[i]'hi).d)) ∧ Below w1.heap.size w1 w'))
      have HPc := Lib.hid (fun (V : World) (hV : Below w1.heap.size w1 V) => And.intro ((hM.below hlo hV).rcells) (And.intro ((hM.below hlo hV).r1.pl.cell hkn) (And.intro ((hs1.below hV (by omega)).all) ((hs2.below hV (by omega)).all))))
      have HLen := Lib.hid hM.row.1
      clear hs1 hs2 hfx hfy hox hoy hM hkn
      generalize ms[p1 e]'hpk = x at *
      generalize ms[i]'hi = y at *
      have HPk := Lib.hid hpk
      have q1 : ((p1 e : Nat) : Int) < (ms.length : Int) := by omega
      have q2 : ((e : Nat) : Int) < (ms.length : Int) := by simpa using hlt
      have q3 : (i : Int) < (ms.length : Int) := by omega
      clear hpk
      obtain ⟨⟨xi, xb, xa, xs, xe, xr, xw⟩, xA, xc, xB, xd⟩ := x
      obtain ⟨⟨yi, yb, ya, ys, ye, yr, yw⟩, yA, yc, yB, yd⟩ := y
      unfold mzVal at HEn
      simp only at HEn HPc HRes
      generalize endsZ ⟨xi, xb, xa, xs, xe, xr, xw⟩ ⟨yi, yb, ya, ys, ye, yr, yw⟩ = ev at *
      generalize p1 e = pk at *
      go_wp2_with fail
      refine wp_region_classJ (C := fun W => Below w1.heap.size w1 W) (by kernel_rfl) (by kernel_rfl) ((Below.refl _ _).drew) ?_
      repeat (
        refine no_implicit_lambda% (wpQuiet_step ?_)
        intro K hK
        go_simp
        first
        | (refine no_implicit_lambda% (hK _ ?_); clear hK K)
        | (apply Exists.intro
           refine ⟨fun _ => ?_, hK _ ?_⟩
           (first
               | (intro hw; with_reducible exact HEn.out _ hw)
               | (intro hw; obtain ⟨⟨rc0, rc1, rc2, rc3, rc4, rc5, rc6, rc7⟩, c1, ⟨x0, x1, x2, x3, x4, x5, x6⟩, ⟨y0, y1, y2, y3, y4, y5, y6⟩⟩ := HPc.out _ hw; go_simp; with_reducible exact ⟨rfl, rfl⟩)
               | (intro hw; obtain ⟨⟨rc0, rc1, rc2, rc3, rc4, rc5, rc6, rc7⟩, c1, ⟨x0, x1, x2, x3, x4, x5, x6⟩, ⟨y0, y1, y2, y3, y4, y5, y6⟩⟩ := HPc.out _ hw; go_simp; with_reducible rfl)
               | (intro _; with_reducible rfl)
               | (intro hw; go_simp; with_reducible exact ⟨rfl, rfl⟩)
               | (intro hw; go_simp; with_reducible exact rfl))
           clear hK K))
      refine wpQuiet_nil ?_
      intro w8 hb8
      have HE8 := Lib.hid (RestE.below HE.out hb8)
      have HM8 := Lib.hid (Mut.two HM.out (Below.mut hb8 (mvO L)))
      clear hb8 HEn HPc
      go_wp2_with fail
      go_ret
      rw [HRes.out]
      exact ⟨rfl, HE8.out, HM8.out⟩
    · have hlt : decide ((e : Int) < (ms.length : Int)) = false := by simpa using hkn
      have hlt2 : decide (e < ms.length) = false := by simpa using hkn
      obtain ⟨hlo, n1, n2, ah, hM⟩ := HE.out
      have HRes := Lib.hid (show waitE (dz ms) dn i = false from waitE_no hM.by1 (k := e) HAll.out (fun q => absurd q (by rw [dz_len]; exact hkn)) (by rw [dz_len]; exact HKle.out))
      have HPc := Lib.hid (fun (V : World) (hV : Below w1.heap.size w1 V) => (hM.below hlo hV).rcells)
      clear hM hkn
      go_wp2_with fail
      refine wp_region_classJ (C := fun W => Below w1.heap.size w1 W) (by kernel_rfl) (by kernel_rfl) ((Below.refl _ _).drew) ?_
      repeat (
        refine no_implicit_lambda% (wpQuiet_step ?_)
        intro K hK
        go_simp
        first
        | (refine no_implicit_lambda% (hK _ ?_); clear hK K)
        | (apply Exists.intro
           refine ⟨fun _ => ?_, hK _ ?_⟩
           (first
               | (intro hw; obtain ⟨rc0, rc1, rc2, rc3, rc4, rc5, rc6, rc7⟩ := HPc.out _ hw; go_simp; with_reducible exact ⟨rfl, rfl⟩)
               | (intro hw; obtain ⟨rc0, rc1, rc2, rc3, rc4, rc5, rc6, rc7⟩ := HPc.out _ hw; go_simp; with_reducible rfl)
               | (intro _; with_reducible rfl)
               | (intro hw; go_simp; with_reducible exact ⟨rfl, rfl⟩)
               | (intro hw; go_simp; with_reducible exact rfl))
           clear hK K))
      refine wpQuiet_nil ?_
      intro w8 hb8
      have HE8 := Lib.hid (RestE.below HE.out hb8)
      have HM8 := Lib.hid (Mut.two HM.out (Below.mut hb8 (mvO L)))
      clear hb8 HPc
      go_wp2_with fail
      go_ret
      rw [HRes.out]
      exact ⟨rfl, HE8.out, HM8.out⟩
end Go.Proofs.Ytfdiidhilonkoaa
