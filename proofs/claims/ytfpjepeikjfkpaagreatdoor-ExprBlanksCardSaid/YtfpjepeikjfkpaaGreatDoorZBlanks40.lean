import Derived.Test.YtfpjepeikjfkpaaGreatDoorZBlanks39
/-
  Package expr: what a reader does with a sign.
-/
namespace Go.Proofs.YtfpjepeikjfkpaaGreatDoor
open Go.RowKit

set_option maxRecDepth 100000 in
set_option maxHeartbeats 8000000 in
theorem sign_two (b lo : Nat) (s : ST) (c : Int) (hc : isTwo c = true) (a z : Int) (w : World) (hM : RdM w b lo s) (hG : GlobE w) (hs : s.st.length + s.out.length ≤ 99000) :
    Calls Tryz.prog 65 #[.pointer (some ⟨b, 0, none⟩), .agg #[.int .i64 0, .int .i64 a, .int .i64 z, .string ⟨(signT c).toArray⟩, .int .i64 0, .int .i64 0, .string ⟨#[]⟩]] w (AddRet b lo w (match popSign c s.st s.out with | none => .inr 8 | some (S, o) => .inl ⟨0, s.call, opT c :: S, o⟩)) := by
  obtain ⟨wa0, call, S0, o0⟩ := s
  simp only at hs ⊢
  obtain ⟨X, hX⟩ : ∃ X : ST ⊕ Int, X = (match popSign c S0 o0 with | none => .inr 8 | some (S, o) => .inl ⟨0, call, opT c :: S, o⟩) := ⟨_, rfl⟩
  rw [← hX]
  have HX := Lib.hid hX
  clear hX
  obtain ⟨m, hm⟩ : ∃ m, m = (⟨(signT c).toArray⟩ : ByteArray) := ⟨_, rfl⟩
  have hsg : isSg c := by unfold isTwo at hc; simp at hc; unfold isSg; omega
  obtain ⟨f1, f2, f3, f4, f5, f6⟩ := sg_facts hsg
  have hml : m.data.toList = signT c := by rw [hm]
  have b41 : ¬ m.toList = [41] := fun h => by
    have := f2.1 (by rw [← hml]; exact ba_text.2 h)
    subst this
    exact absurd hc (by decide)
  have g41 : (m.toList == [41]) = false := by rw [beq_eq_false_iff_ne]; exact b41
  rw [← hm]
  have hbx := boxed hM #[.int .i64 0, .int .i64 a, .int .i64 z, .string m, .int .i64 0, .int .i64 0, .string ⟨#[]⟩] 63
  obtain ⟨wa, hwa⟩ : ∃ y, w.alloc (.cells #[.int .i64 0, .int .i64 a, .int .i64 z, .string m, .int .i64 0, .int .i64 0, .string ⟨#[]⟩] 63) = y := ⟨_, rfl⟩
  rw [hwa] at hbx
  have hGa : GlobE wa := by rw [← hwa]; exact hG.below ((Below.refl _ _).alloc (Nat.le_refl _) _)
  have hbk : wa.heap[w.heap.size]? = some (.cells #[.int .i64 0, .int .i64 a, .int .i64 z, .string m, .int .i64 0, .int .i64 0, .string ⟨#[]⟩] 63 (0, 0)) := by rw [← hwa]; exact heap_alloc_new w _
  have y3 := cellAt (o := 3) hbk rfl
  have HSg := Lib.hid (signed_any m 6 18 (by omega) (by omega) wa hGa)
  rw [show signedF (18 + 1 - 6) 6 m.data.toList = (c, true) from by rw [hml]; rw [if_pos hc] at f6; exact f6] at HSg
  have HA := Lib.hid hbx
  have HL0 := Lib.hid (last_any b lo _ wa hbx.1 (by simp only; omega))
  have HT := Lib.hid (fun op w => (dTakes_any op w).mono fun _ _ h => And.intro h.1 h.2.symm)
  have HS := Lib.hid (fun op w => (dStrength_any op w).mono fun _ _ h => And.intro h.1 h.2.symm)
  have HLe := Lib.hid (fun op pl w => (dLeast_any op pl w).mono fun _ _ h => And.intro h.1 h.2.symm)
  have HWA := Lib.hid hwa
  have HC2 := Lib.hid hc
  have hls : leastD c 0 = (if strD c = 3 then strD c + 1 else strD c) := by
    unfold leastD
    rw [if_neg (by unfold isTwo at hc; simp at hc; omega)]
    by_cases h : strD c = 3
    · rw [if_pos (.inr h), if_pos h]
    · rw [if_neg (by omega), if_neg h]
  have hcs := strD_two hc
  have hcl := strD_le c
  have HLS := Lib.hid hls
  obtain ⟨i, z0, hi0, hz0, hzs, hz2, hz3⟩ := infoTerm
  have HI := Lib.hid hi0
  clear hM hbx hGa hwa hbk hm hml hsg f1 f2 f3 f4 f5 f6 hi0 hls hG hc
  go_enter Tryz.func65, Tryz.ntmps65
  go_upto_region 1 with fail
  rw [HWA.out]
  go_wp2_with (first | (go_at_call 105; refine HSg.out.mono ?_; rintro r w1 ⟨rfl, rfl⟩) | (go_at_call 108; refine HL0.out.mono ?_; rintro r w2 ⟨rfl, hb2⟩))
  have HB2 := Lib.hid hb2
  clear hb2
  go_loopg [7] S0.length (fun q ah wr => ∃ S o, S.length = q ∧ popSign c S0 o0 = popSign c S o ∧ S.length + o.length ≤ 99000 ∧ ah = .int .i64 (lastM S) ∧ RdM wr b lo ⟨wa0, call, S, o⟩ ∧ Foot b lo w wr)
  case atStart => exact ⟨S0, o0, rfl, rfl, hs, rfl, HA.out.1.below HB2.out, HA.out.2.trans (Foot.of_below HB2.out HA.out.1.lo2)⟩
  case round =>
    obtain ⟨S, o, hk, hp, hl, rfl, hmr, hfr⟩ := hrel
    have HK := Lib.hid hk
    have HP := Lib.hid hp
    have HMr := Lib.hid hmr
    have HF := Lib.hid hfr
    clear hk hp hmr hfr
    by_cases h2 : takesD (lastM S) = 2
    · obtain ⟨t, S', rfl, ht⟩ := takesD_last.1 h2
      have d1 : (takesD (lastM (t :: S')) == 2) = true := by rw [h2]; rfl
      have hts := strD_two ht
      have htl := strD_le t.op
      have hL : lastM (t :: S') = t.op := rfl
      by_cases hge : strOf c ≤ strOf t.op
      · have d2 : decide ((strD c : Int) ≤ (strD t.op : Int)) = true := by rw [decide_eq_true_iff]; omega
        have d2' : decide (strD c ≤ strD t.op) = true := by rw [decide_eq_true_iff]; omega
        by_cases h3 : strOf c = 2 ∧ strOf t.op = 2
        · have HE := Lib.hid (show popSign c S0 o0 = none by rw [HP.out, popSign, if_pos ⟨ht, hge⟩, if_pos h3])
          have hl4 : leastD c 0 = strD c + 1 := by rw [HLS.out, if_pos (by omega)]
          have d3 : decide ((strD t.op : Int) < (leastD c 0 : Int)) = true := by rw [decide_eq_true_iff, hl4]; omega
          have d3' : decide (strD t.op < leastD c 0) = true := by rw [decide_eq_true_iff, hl4]; omega
          rw [hL] at d1 h2 ⊢
          clear hL h2 hl4 h3 hge ht hts htl hcs hcl
          go_wp2_with (first | (go_at_call 23; refine (HT.out _ _).mono ?_; rintro r w' ⟨rfl, rfl⟩) | (go_at_call 31; refine (HS.out _ _).mono ?_; rintro r w' ⟨rfl, rfl⟩) | (go_at_call 46; refine (HLe.out _ _ _).mono ?_; rintro r w' ⟨rfl, rfl⟩))
          go_ret
          rw [HX.out, HE.out]
          exact ⟨rfl, HF.out⟩
        · have HP2 := Lib.hid (show popSign c S0 o0 = popSign c S' (o ++ [t]) by rw [HP.out, popSign, if_pos ⟨ht, hge⟩, if_neg h3])
          have hl4 : leastD c 0 ≤ strD t.op := by rw [HLS.out]; split <;> omega
          have d3 : decide ((strD t.op : Int) < (leastD c 0 : Int)) = false := by rw [decide_eq_false_iff_not]; omega
          have d3' : decide (strD t.op < leastD c 0) = false := by rw [decide_eq_false_iff_not]; omega
          have HPu := Lib.hid (show putM t o = o ++ [t] by
            unfold putM
            rw [if_neg (by intro e; rw [e] at ht; exact absurd ht (by decide))])
          rw [List.length_cons] at hl
          have HCl := Lib.hid (close_any b lo wa0 call t S' o wr HMr.out (by omega) (by omega))
          rw [hL] at d1 h2 ⊢
          clear hL h2 hl4 h3 hge ht hts htl hcs hcl
          go_wp2_with (first | (go_at_call 23; refine (HT.out _ _).mono ?_; rintro r w' ⟨rfl, rfl⟩) | (go_at_call 31; refine (HS.out _ _).mono ?_; rintro r w' ⟨rfl, rfl⟩) | (go_at_call 46; refine (HLe.out _ _ _).mono ?_; rintro r w' ⟨rfl, rfl⟩) | (go_at_call 109; refine HCl.out.mono ?_; rintro r w3 ⟨rfl, hm3, hf3⟩; rw [HPu.out] at hm3; have HM3 := Lib.hid hm3; have HF3 := Lib.hid hf3; clear hm3 hf3) | (go_at_call 108; refine (last_any b lo _ _ HM3.out (by simp only; omega)).mono ?_; rintro r w4 ⟨rfl, hb4⟩))
          go_roundg S'.length
          case measure => have := HK.out; rw [List.length_cons] at this; omega
          case rel => exact ⟨S', o ++ [t], rfl, HP2.out, by rw [List.length_append, List.length_singleton]; omega, rfl, HM3.out.below hb4, (HF.out.trans HF3.out).trans (Foot.of_below hb4 HM3.out.lo2)⟩
      · have d2 : decide ((strD c : Int) ≤ (strD t.op : Int)) = false := by rw [decide_eq_false_iff_not]; omega
        have d2' : decide (strD c ≤ strD t.op) = false := by rw [decide_eq_false_iff_not]; omega
        have HE := Lib.hid (show popSign c S0 o0 = some (t :: S', o) by rw [HP.out, popSign, if_neg (by rintro ⟨_, h⟩; exact hge h)])
        rw [hL] at d1 h2 ⊢
        clear hL h2 hge ht hts htl hcs hcl
        generalize hSS : t :: S' = S at *
        obtain ⟨⟨A1, c1, A2, c2, h1, h2, h3, h4⟩, h5, h6⟩ := HMr.out
        simp only at h1 h2 h3 h4
        have k2 := h1.c2
        have hbl := h1.lt
        have HO := Lib.hid (show wr.ownsRow lo 44 5 (.slice A1 S.length c1) S.length (flatT S.reverse) from by
          have : OwnT wr lo (.slice A1 S.length c1) S.reverse := h2
          unfold OwnT at this
          rwa [List.length_reverse] at this)
        have HNE := Lib.hid (show some b ≠ (Value.slice A1 S.length c1).ownBlock from fun e => by
          have := (World.ownsRow.lt HO.out b e.symm).1
          omega)
        have G1 := Lib.hid h1
        have G3 := Lib.hid h3
        have H4 := Lib.hid h4
        clear h1 h2 h3 h4
        go_wp2_with (first | (go_at_call 23; refine (HT.out _ _).mono ?_; rintro r w' ⟨rfl, rfl⟩) | (go_at_call 31; refine (HS.out _ _).mono ?_; rintro r w' ⟨rfl, rfl⟩) | (at_builtin; go_loud (refine wpList_append_lies _ rfl _ _ 22 rfl lo 44 i z0 5 56 Tryz.underlying22 HI.out hz0 hz2 hz3 hzs (by omega) (.slice A1 S.length c1) S.length (flatT S.reverse) rfl (HO.out.alloc _) ⟨wr.heap.size, 0, none⟩ 1 1 (cellsT (opT c)) (by simp [Act.eval]) rfl (newsT _ _ (opT c)) (cellsT_one _) (by omega) (by unfold maxLen; omega) (by omega) (by simp; omega) _ rfl ?_; intro g1 cap1 w1 hown' hgrow hat hlt'; have hE : RdE w1 b wa0 call (.slice A1 S.length c1) (ndeep S) (.slice A2 o.length c2) := (G1.out.alloc _).keep (hgrow.block b (by simp; omega) HNE.out); have hc4 := hE.c2; have hf4' := hE.fz 2; have hc0 := hE.c0; have hf0 := hE.fz 0)))
        go_ret
        obtain ⟨r1, r2⟩ := pushed 0 hE G3.out HF.out h5 h6 hown' hgrow hat H4.out (fun k hk => (World.ownsRow.lt HO.out k hk).1) (by rw [ndeep, if_pos (show isTwo (opT c).op = true from HC2.out)])
        rw [HX.out, HE.out]
        exact ⟨rfl, r1, r2⟩
    · have d1 : (takesD (lastM S) == 2) = false := by rw [beq_eq_false_iff_ne]; exact h2
      have HE := Lib.hid (show popSign c S0 o0 = some (S, o) by
        rw [HP.out]
        cases S with
        | nil => rfl
        | cons t S' => rw [popSign, if_neg (by rintro ⟨h, _⟩; exact h2 (takesD_last.2 ⟨t, S', rfl, h⟩))])
      clear h2 hcs hcl
      obtain ⟨⟨A1, c1, A2, c2, h1, h2, h3, h4⟩, h5, h6⟩ := HMr.out
      simp only at h1 h2 h3 h4
      have k2 := h1.c2
      have hbl := h1.lt
      have HO := Lib.hid (show wr.ownsRow lo 44 5 (.slice A1 S.length c1) S.length (flatT S.reverse) from by
        have : OwnT wr lo (.slice A1 S.length c1) S.reverse := h2
        unfold OwnT at this
        rwa [List.length_reverse] at this)
      have HNE := Lib.hid (show some b ≠ (Value.slice A1 S.length c1).ownBlock from fun e => by
        have := (World.ownsRow.lt HO.out b e.symm).1
        omega)
      have G1 := Lib.hid h1
      have G3 := Lib.hid h3
      have H4 := Lib.hid h4
      clear h1 h2 h3 h4
      go_wp2_with (first | (go_at_call 23; refine (HT.out _ _).mono ?_; rintro r w' ⟨rfl, rfl⟩) | (go_at_call 31; refine (HS.out _ _).mono ?_; rintro r w' ⟨rfl, rfl⟩) | (at_builtin; go_loud (refine wpList_append_lies _ rfl _ _ 22 rfl lo 44 i z0 5 56 Tryz.underlying22 HI.out hz0 hz2 hz3 hzs (by omega) (.slice A1 S.length c1) S.length (flatT S.reverse) rfl (HO.out.alloc _) ⟨wr.heap.size, 0, none⟩ 1 1 (cellsT (opT c)) (by simp [Act.eval]) rfl (newsT _ _ (opT c)) (cellsT_one _) (by omega) (by unfold maxLen; omega) (by omega) (by simp; omega) _ rfl ?_; intro g1 cap1 w1 hown' hgrow hat hlt'; have hE : RdE w1 b wa0 call (.slice A1 S.length c1) (ndeep S) (.slice A2 o.length c2) := (G1.out.alloc _).keep (hgrow.block b (by simp; omega) HNE.out); have hc4 := hE.c2; have hf4' := hE.fz 2; have hc0 := hE.c0; have hf0 := hE.fz 0)))
      go_ret
      obtain ⟨r1, r2⟩ := pushed 0 hE G3.out HF.out h5 h6 hown' hgrow hat H4.out (fun k hk => (World.ownsRow.lt HO.out k hk).1) (by rw [ndeep, if_pos (show isTwo (opT c).op = true from HC2.out)])
      rw [HX.out, HE.out]
      exact ⟨rfl, r1, r2⟩
end Go.Proofs.YtfpjepeikjfkpaaGreatDoor
