import Derived.Test.YtfpjepeikjfkpaaGreatDoorZC29
/-
  Package expr: what a reader does with a sign.
-/
namespace Go.Proofs.YtfpjepeikjfkpaaGreatDoor
open Go.RowKit

set_option maxRecDepth 100000 in
set_option maxHeartbeats 8000000 in
theorem sign_two (b lo : Nat) (s : ST) (c : Int) (hc : isTwo c = true) (a z : Int) (w : World) (hM : RdM w b lo s) (hG : GlobE w) (hs : s.st.length + s.out.length ≤ 99000) :
    Calls Tryz.prog 65 #[.pointer (some ⟨b, 0, none⟩), .agg #[.int .i64 0, .int .i64 a, .int .i64 z, .string ⟨(signT c).toArray⟩, .int .i64 0, .int .i64 0, .string ⟨#[]⟩]] w (AddRet b lo w (match popSign c s.st s.out with | none => .inr 8 | some (S, o) => .inl ⟨0, s.call, opT c :: S, o⟩)) := by
  obtain ⟨wa0, call, S0, o0⟩ := s
  simp only at hs ⊢
  obtain ⟨X, hX⟩ : ∃ X : ST ⊕ Int, X = (match popSign c S0 o0 with | none => .inr 8 | some (S, o) => .inl ⟨0, call, opT c :: S, o⟩) := ⟨_, rfl⟩
  rw [← hX]
  have HX := Lib.hid hX
  clear hX
  obtain ⟨m, hm⟩ : ∃ m, m = (⟨(signT c).toArray⟩ : ByteArray) := ⟨_, rfl⟩
  have hsg : isSg c := by unfold isTwo at hc; simp at hc; unfold isSg; omega
  obtain ⟨f1, f2, f3, f4, f5, f6⟩ := sg_facts hsg
  have hml : m.data.toList = signT c := by rw [hm]
  have b41 : ¬ m.toList = [41] := fun h => by
    have := f2.1 (by rw [← hml]; exact ba_text.2 h)
    subst this
    exact absurd hc (by decide)
  have g41 : (m.toList == [41]) = false := by rw [beq_eq_false_iff_ne]; exact b41
  rw [← hm]
  have hbx := boxed hM #[.int .i64 0, .int .i64 a, .int .i64 z, .string m, .int .i64 0, .int .i64 0, .string ⟨#[]⟩] 63
  obtain ⟨wa, hwa⟩ : ∃ y, w.alloc (.cells #[.int .i64 0, .int .i64 a, .int .i64 z, .string m, .int .i64 0, .int .i64 0, .string ⟨#[]⟩] 63) = y := ⟨_, rfl⟩
  rw [hwa] at hbx
  have hGa : GlobE wa := by rw [← hwa]; exact hG.below ((Below.refl _ _).alloc (Nat.le_refl _) _)
  have hbk : wa.heap[w.heap.size]? = some (.cells #[.int .i64 0, .int .i64 a, .int .i64 z, .string m, .int .i64 0, .int .i64 0, .string ⟨#[]⟩] 63 (0, 0)) := by rw [← hwa]; exact heap_alloc_new w _
  have y3 := cellAt (o := 3) hbk rfl
  have HSg := Lib.hid (signed_any m 6 18 (by omega) (by omega) wa hGa)
  rw [show signedF (18 + 1 - 6) 6 m.data.toList = (c, true) from by rw [hml]; rw [if_pos hc] at f6; exact f6] at HSg
  have HA := Lib.hid hbx
  have HL0 := Lib.hid (last_any b lo _ wa hbx.1 (by simp only; omega))
  have HT := Lib.hid (fun op w => (dTakes_any op w).mono fun _ _ h => And.intro h.1 h.2.symm)
  have HS := Lib.hid (fun op w => (dStrength_any op w).mono fun _ _ h => And.intro h.1 h.2.symm)
  have HLe := Lib.hid (fun op pl w => (dLeast_any op pl w).mono fun _ _ h => And.intro h.1 h.2.symm)
  have HWA := Lib.hid hwa
  have HC2 := Lib.hid hc
  have hls : leastD c 0 = (if strD c = 3 then strD c + 1 else strD c) := by
    unfold leastD
    rw [if_neg (by unfold isTwo at hc; simp at hc; omega)]
    by_cases h : strD c = 3
    · rw [if_pos (.inr h), if_pos h]
    · rw [if_neg (by omega), if_neg h]
  have hcs := strD_two hc
  have hcl := strD_le c
  have HLS := Lib.hid hls
  obtain ⟨i, z0, hi0, hz0, hzs, hz2, hz3⟩ := infoTerm
  have HI := Lib.hid hi0
  clear hM hbx hGa hwa hbk hm hml hsg f1 f2 f3 f4 f5 f6 hi0 hls hG hc
  go_enter Tryz.func65, Tryz.ntmps65
  go_upto_region 1 with fail
  rw [HWA.out]
  go_wp2_with (first | (go_at_call 105; refine HSg.out.mono ?_; rintro r w1 ⟨rfl, rfl⟩) | (go_at_call 108; refine HL0.out.mono ?_; rintro r w2 ⟨rfl, hb2⟩))
  have HB2 := Lib.hid hb2
  clear hb2
  go_loopg [7] S0.length (fun q ah wr => ∃ S o, S.length = q ∧ popSign c S0 o0 = popSign c S o ∧ S.length + o.length ≤ 99000 ∧ ah = .int .i64 (lastM S) ∧ RdM wr b lo ⟨wa0, call, S, o⟩ ∧ Foot b lo w wr)
  case atStart => exact ⟨S0, o0, rfl, rfl, hs, rfl, HA.out.1.below HB2.out, HA.out.2.trans (Foot.of_below HB2.out HA.out.1.lo2)⟩
  case round =>
    obtain ⟨S, o, hk, hp, hl, rfl, hmr, hfr⟩ := hrel
    have HK := Lib.hid hk
    have HP := Lib.hid hp
    have HMr := Lib.hid hmr
    have HF := Lib.hid hfr
    clear hk hp hmr hfr
    by_cases h2 : takesD (lastM S) = 2
    · obtain ⟨t, S', rfl, ht⟩ := takesD_last.1 h2
      have d1 : (takesD (lastM (t :: S')) == 2) = true := by rw [h2]; rfl
      have hts := strD_two ht
      have htl := strD_le t.op
      have hL : lastM (t :: S') = t.op := rfl
      by_cases hge : strOf c ≤ strOf t.op
      · have d2 : decide ((strD c : Int) ≤ (strD t.op : Int)) = true := by rw [decide_eq_true_iff]; omega
        have d2' : decide (strD c ≤ strD t.op) = true := by rw [decide_eq_true_iff]; omega
        by_cases h3 : strOf c = 2 ∧ strOf t.op = 2
        · have HE := Lib.hid (show popSign c S0 o0 = none by rw [HP.out, popSign, if_pos ⟨ht, hge⟩, if_pos h3])
          have hl4 : leastD c 0 = strD c + 1 := by rw [HLS.out, if_pos (by omega)]
          have d3 : decide ((strD t.op : Int) < (leastD c 0 : Int)) = true := by rw [decide_eq_true_iff, hl4]; omega
          have d3' : decide (strD t.op < leastD c 0) = true := by rw [decide_eq_true_iff, hl4]; omega
          rw [hL] at d1 h2 ⊢
          clear hL h2 hl4 h3 hge ht hts htl hcs hcl
          go_wp2_with (first | (go_at_call 23; refine (HT.out _ _).mono ?_; rintro r w' ⟨rfl, rfl⟩) | (go_at_call 31; refine (HS.out _ _).mono ?_; rintro r w' ⟨rfl, rfl⟩) | (go_at_call 46; refine (HLe.out _ _ _).mono ?_; rintro r w' ⟨rfl, rfl⟩))
          go_ret
          rw [HX.out, HE.out]
          exact ⟨rfl, HF.out⟩
        · have HP2 := Lib.hid (show popSign c S0 o0 = popSign c S' (o ++ [t]) by rw [HP.out, popSign, if_pos ⟨ht, hge⟩, if_neg h3])
          have hl4 : leastD c 0 ≤ strD t.op := by rw [HLS.out]; split <;> omega
          have d3 : decide ((strD t.op : Int) < (leastD c 0 : Int)) = false := by rw [decide_eq_false_iff_not]; omega
          have d3' : decide (strD t.op < leastD c 0) = false := by rw [decide_eq_false_iff_not]; omega
          have HPu := Lib.hid (show putM t o = o ++ [t] by
            unfold putM
            rw [if_neg (by intro e; rw [e] at ht; exact absurd ht (by decide))])
          rw [List.length_cons] at hl
          have HCl := Lib.hid (close_any b lo wa0 call t S' o wr HMr.out (by omega) (by omega))
          rw [hL] at d1 h2 ⊢
          clear hL h2 hl4 h3 hge ht hts htl hcs hcl
          go_wp2_with (first | (go_at_call 23; refine (HT.out _ _).mono ?_; rintro r w' ⟨rfl, rfl⟩) | (go_at_call 31; refine (HS.out _ _).mono ?_; rintro r w' ⟨rfl, rfl⟩) | (go_at_call 46; refine (HLe.out _ _ _).mono ?_; rintro r w' ⟨rfl, rfl⟩) | (go_at_call 109; refine HCl.out.mono ?_; rintro r w3 ⟨rfl, hm3, hf3⟩; rw [HPu.out] at hm3; have HM3 := Lib.hid hm3; have HF3 := Lib.hid hf3; clear hm3 hf3) | (go_at_call 108; refine (last_any b lo _ _ HM3.out (by simp only; omega)).mono ?_; rintro r w4 ⟨rfl, hb4⟩))
          go_roundg S'.length
          case measure => have := HK.out; rw [List.length_cons] at this; omega
          case rel => exact ⟨S', o ++ [t], rfl, HP2.out, by rw [List.length_append, List.length_singleton]; omega, rfl, HM3.out.below hb4, (HF.out.trans HF3.out).trans (Foot.of_below hb4 HM3.out.lo2)⟩
      · have d2 : decide ((strD c : Int) ≤ (strD t.op : Int)) = false := by rw [decide_eq_false_iff_not]; omega
        have d2' : decide (strD c ≤ strD t.op) = false := by rw [decide_eq_false_iff_not]; omega
        have HE := Lib.hid (show popSign c S0 o0 = some (t :: S', o) by rw [HP.out, popSign, if_neg (by rintro ⟨_, h⟩; exact hge h)])
        rw [hL] at d1 h2 ⊢
        clear hL h2 hge ht hts htl hcs hcl
        generalize hSS : t :: S' = S at *
        obtain ⟨⟨A1, c1, A2, c2, h1, h2, h3, h4⟩, h5, h6⟩ := HMr.out
        simp only at h1 h2 h3 h4
        have k2 := h1.c2
        have hbl := h1.lt
        have HO := Lib.hid (show wr.ownsRow lo 44 5 (.slice A1 S.length c1) S.length (flatT S.reverse) from by
          have : OwnT wr lo (.slice A1 S.length c1) S.reverse := h2
          unfold OwnT at this
          rwa [List.length_reverse] at this)
        have HNE := Lib.hid (show some b ≠ (Value.slice A1 S.length c1).ownBlock from fun e => by
          have := (World.ownsRow.lt HO.out b e.symm).1
          omega)
        have G1 := Lib.hid h1
        have G3 := Lib.hid h3
        have H4 := Lib.hid h4
        clear h1 h2 h3 h4
        go_wp2_with (first | (go_at_call 23; refine (HT.out _ _).mono ?_; rintro r w' ⟨rfl, rfl⟩) | (go_at_call 31; refine (HS.out _ _).mono ?_; rintro r w' ⟨rfl, rfl⟩) | (at_builtin; go_loud (refine wpList_append_lies _ rfl _ _ 22 rfl lo 44 i z0 5 56 Tryz.underlying22 HI.out hz0 hz2 hz3 hzs (by omega) (.slice A1 S.length c1) S.length (flatT S.reverse) rfl (HO.out.alloc _) ⟨wr.heap.size, 0, none⟩ 1 1 (cellsT (opT c)) (by simp [Act.eval]) rfl (newsT _ _ (opT c)) (cellsT_one _) (by omega) (by unfold maxLen; omega) (by omega) (by simp; omega) _ rfl ?_; intro g1 cap1 w1 hown' hgrow hat hlt'; have hE : RdE w1 b wa0 call (.slice A1 S.length c1) (ndeep S) (.slice A2 o.length c2) := (G1.out.alloc _).keep (hgrow.block b (by simp; omega) HNE.out); have hc4 := hE.c2; have hf4' := hE.fz 2; have hc0 := hE.c0; have hf0 := hE.fz 0)))
        go_ret
        obtain ⟨r1, r2⟩ := pushed 0 hE G3.out HF.out h5 h6 hown' hgrow hat H4.out (fun k hk => (World.ownsRow.lt HO.out k hk).1) (by rw [ndeep, if_pos (show isTwo (opT c).op = true from HC2.out)])
        rw [HX.out, HE.out]
        exact ⟨rfl, r1, r2⟩
    · have d1 : (takesD (lastM S) == 2) = false := by rw [beq_eq_false_iff_ne]; exact h2
      have HE := Lib.hid (show popSign c S0 o0 = some (S, o) by
        rw [HP.out]
        cases S with
        | nil => rfl
        | cons t S' => rw [popSign, if_neg (by rintro ⟨h, _⟩; exact h2 (takesD_last.2 ⟨t, S', rfl, h⟩))])
      clear h2 hcs hcl
      obtain ⟨⟨A1, c1, A2, c2, h1, h2, h3, h4⟩, h5, h6⟩ := HMr.out
      simp only at h1 h2 h3 h4
      have k2 := h1.c2
      have hbl := h1.lt
      have HO := Lib.hid (show wr.ownsRow lo 44 5 (.slice A1 S.length c1) S.length (flatT S.reverse) from by
        have : OwnT wr lo (.slice A1 S.length c1) S.reverse := h2
        unfold OwnT at this
        rwa [List.length_reverse] at this)
      have HNE := Lib.hid (show some b ≠ (Value.slice A1 S.length c1).ownBlock from fun e => by
        have := (World.ownsRow.lt HO.out b e.symm).1
        omega)
      have G1 := Lib.hid h1
      have G3 := Lib.hid h3
      have H4 := Lib.hid h4
      clear h1 h2 h3 h4
      go_wp2_with (first | (go_at_call 23; refine (HT.out _ _).mono ?_; rintro r w' ⟨rfl, rfl⟩) | (go_at_call 31; refine (HS.out _ _).mono ?_; rintro r w' ⟨rfl, rfl⟩) | (at_builtin; go_loud (refine wpList_append_lies _ rfl _ _ 22 rfl lo 44 i z0 5 56 Tryz.underlying22 HI.out hz0 hz2 hz3 hzs (by omega) (.slice A1 S.length c1) S.length (flatT S.reverse) rfl (HO.out.alloc _) ⟨wr.heap.size, 0, none⟩ 1 1 (cellsT (opT c)) (by simp [Act.eval]) rfl (newsT _ _ (opT c)) (cellsT_one _) (by omega) (by unfold maxLen; omega) (by omega) (by simp; omega) _ rfl ?_; intro g1 cap1 w1 hown' hgrow hat hlt'; have hE : RdE w1 b wa0 call (.slice A1 S.length c1) (ndeep S) (.slice A2 o.length c2) := (G1.out.alloc _).keep (hgrow.block b (by simp; omega) HNE.out); have hc4 := hE.c2; have hf4' := hE.fz 2; have hc0 := hE.c0; have hf0 := hE.fz 0)))
      go_ret
      obtain ⟨r1, r2⟩ := pushed 0 hE G3.out HF.out h5 h6 hown' hgrow hat H4.out (fun k hk => (World.ownsRow.lt HO.out k hk).1) (by rw [ndeep, if_pos (show isTwo (opT c).op = true from HC2.out)])
      rw [HX.out, HE.out]
      exact ⟨rfl, r1, r2⟩
end Go.Proofs.YtfpjepeikjfkpaaGreatDoor

/-
  Package expr: a reader is given a token.
-/
namespace Go.Proofs.YtfpjepeikjfkpaaGreatDoor
open Go.RowKit

set_option maxRecDepth 100000 in
set_option maxHeartbeats 4000000 in
theorem sign_close (b lo : Nat) (s : ST) (a z : Int) (w : World) (hM : RdM w b lo s) (hs : s.st.length + s.out.length ≤ 98000) :
    Calls Tryz.prog 65 #[.pointer (some ⟨b, 0, none⟩), .agg #[.int .i64 0, .int .i64 a, .int .i64 z, .string ⟨#[41]⟩, .int .i64 0, .int .i64 0, .string ⟨#[]⟩]] w (AddRet b lo w (closeM s)) := by
  have HBx := Lib.hid (boxed hM #[.int .i64 0, .int .i64 a, .int .i64 z, .string ⟨#[41]⟩, .int .i64 0, .int .i64 0, .string ⟨#[]⟩] 63)
  have HC := Lib.hid (closeBr_yes b lo s 0 a z ⟨#[41]⟩ V0 _ HBx.out.1 rfl (by omega))
  simp only [tokVal, V0] at HC
  clear hM
  go_enter Tryz.func65, Tryz.ntmps65
  go_wp2_with (go_at_call 68; refine HC.out.mono ?_; rintro r w1 hr; obtain ⟨nn, rfl, hr⟩ := hr.num; have HR := Lib.hid hr; clear hr)
  go_ret
  exact HR.out.front HBx.out.2
set_option maxRecDepth 100000 in
set_option maxHeartbeats 4000000 in
theorem sign_no (b lo : Nat) (s : ST) (k a z : Int) (tx : ByteArray) (v : V) (ht : tx.data.toList ≠ [41]) (hsg : signedF 13 6 tx.data.toList = (0, false)) (w : World) (hM : RdM w b lo s) (hG : GlobE w) :
    Calls Tryz.prog 65 #[.pointer (some ⟨b, 0, none⟩), tokVal k a z tx v] w (AddRet b lo w (.inr 8)) := by
  unfold tokVal
  have hbx := boxed hM #[.int .i64 k, .int .i64 a, .int .i64 z, .string tx, .int .i64 v.k, .int .i64 v.n, .string v.s] 63
  obtain ⟨wa, hwa⟩ : ∃ y, w.alloc (.cells #[.int .i64 k, .int .i64 a, .int .i64 z, .string tx, .int .i64 v.k, .int .i64 v.n, .string v.s] 63) = y := ⟨_, rfl⟩
  rw [hwa] at hbx
  have hwsz : wa.heap.size = w.heap.size + 1 := by rw [← hwa]; simp
  have hGa : GlobE wa := by rw [← hwa]; exact hG.below ((Below.refl _ _).alloc (Nat.le_refl _) _)
  have hbk : wa.heap[w.heap.size]? = some (.cells #[.int .i64 k, .int .i64 a, .int .i64 z, .string tx, .int .i64 v.k, .int .i64 v.n, .string v.s] 63 (0, 0)) := by rw [← hwa]; exact heap_alloc_new w _
  have y0 := cellAt (o := 0) hbk rfl
  have y1 := cellAt (o := 1) hbk rfl
  have y2 := cellAt (o := 2) hbk rfl
  have y3 := cellAt (o := 3) hbk rfl
  have y4 := cellAt (o := 4) hbk rfl
  have y5 := cellAt (o := 5) hbk rfl
  have y6 := cellAt (o := 6) hbk rfl
  clear hbk
  have HA := Lib.hid hbx
  have HS := Lib.hid (signed_any tx 6 18 (by omega) (by omega) wa hGa)
  rw [show signedF (18 + 1 - 6) 6 tx.data.toList = (0, false) from hsg] at HS
  have HWA := Lib.hid hwa
  have b1 : ¬ tx.toList = [41] := fun h => ht (ba_text.2 h)
  have g1 : (tx.toList == [41]) = false := by rw [beq_eq_false_iff_ne]; exact b1
  clear hM hbx hGa hwa ht hsg
  go_enter Tryz.func65, Tryz.ntmps65
  go_upto_region 1 with fail
  rw [HWA.out]
  go_wp2_with (go_at_call 105; refine HS.out.mono ?_; rintro r w1 ⟨rfl, rfl⟩)
  go_ret
  exact ⟨rfl, HA.out.2⟩
theorem sign_tok (b lo : Nat) (s : ST) (t : Tok) (k a z : Int) (tx : ByteArray) (v : V) (w : World) (hM : RdM w b lo s) (hG : GlobE w) (hT : TokIs t k tx v) (hs : s.st.length + s.out.length ≤ 98000) :
    Calls Tryz.prog 65 #[.pointer (some ⟨b, 0, none⟩), tokVal k a z tx v] w (AddRet b lo w (signM s t)) := by
  cases t with
  | lit x =>
    obtain ⟨rfl, rfl, rfl⟩ := hT
    exact sign_no b lo s _ a z _ _ (by decide) (by decide) w hM hG
  | word m =>
    obtain ⟨rfl, rfl, h1, h2, h3, c, r, e, hc⟩ := hT
    refine sign_no b lo s _ a z _ _ (fun h => ?_) (by rw [e]; exact signedF_letter hc 13 6 (by omega)) w hM hG
    rw [e] at h
    injection h with h _
    rw [h] at hc
    exact absurd hc (by decide)
  | sg c =>
    obtain ⟨rfl, rfl, rfl, hg⟩ := hT
    obtain ⟨f1, f2, f3, f4, f5, f6⟩ := sg_facts hg
    have e : signM s (.sg c) = if c = 21 then closeM s else if isTwo c = true then (match popSign c s.st s.out with | none => .inr 8 | some (S, o) => .inl ⟨0, s.call, opT c :: S, o⟩) else .inr 8 := rfl
    rw [e]
    by_cases h21 : c = 21
    · subst h21
      rw [if_pos rfl]
      exact sign_close b lo s a z w hM hs
    · rw [if_neg h21]
      by_cases h2 : isTwo c = true
      · rw [if_pos h2]
        exact sign_two b lo s c h2 a z w hM hG (by omega)
      · rw [if_neg h2] at f6 ⊢
        exact sign_no b lo s _ a z _ _ (fun h => h21 (f2.1 (by simpa using h))) (by simpa using f6) w hM hG
theorem shut_tok (b lo : Nat) (s : ST) (t : Tok) (k a z : Int) (tx : ByteArray) (v : V) (w : World) (hM : RdM w b lo s) (hT : TokIs t k tx v) (hs : s.st.length + s.out.length ≤ 98000) :
    Calls Tryz.prog 68 #[.pointer (some ⟨b, 0, none⟩), tokVal k a z tx v] w (AddRet b lo w (shutM s t)) := by
  have no : tx.data.toList ≠ [41] → shutM s t = .inr 8 → Calls Tryz.prog 68 #[.pointer (some ⟨b, 0, none⟩), tokVal k a z tx v] w (AddRet b lo w (shutM s t)) := fun h1 h2 => by
    rw [h2]
    exact (closeBr_no b lo s k a z tx v w hM h1).mono fun _ _ h => h
  cases t with
  | lit x =>
    obtain ⟨rfl, rfl, rfl⟩ := hT
    exact no (by decide) rfl
  | word m =>
    obtain ⟨rfl, rfl, h1, h2, h3, c, r, e, hc⟩ := hT
    refine no (fun h => ?_) rfl
    rw [e] at h
    injection h with h _
    rw [h] at hc
    exact absurd hc (by decide)
  | sg c =>
    obtain ⟨rfl, rfl, rfl, hg⟩ := hT
    obtain ⟨f1, f2, _⟩ := sg_facts hg
    have e : shutM s (.sg c) = if c = 21 then closeM s else .inr 8 := rfl
    by_cases h21 : c = 21
    · rw [e, if_pos h21]
      exact closeBr_yes b lo s _ a z _ _ w hM (by simpa using f2.2 h21) (by omega)
    · exact no (fun h => h21 (f2.1 (by simpa using h))) (by rw [e, if_neg h21])

/-! ### add -/
/-- What holds of a reader between its calls. -/
structure OkS (s : ST) : Prop where
  w : 0 ≤ s.wants ∧ s.wants ≤ 4
  c : s.wants = 2 → s.call = 2 ∨ s.call = 5
  n : s.wants = 3 → s.st ≠ []
set_option maxRecDepth 100000 in
set_option maxHeartbeats 4000000 in
theorem add_value (b lo : Nat) (s : ST) (t : Tok) (k a z : Int) (tx : ByteArray) (v : V) (w : World) (hM : RdM w b lo s) (hG : GlobE w) (hT : TokIs t k tx v) (hok : OkS s) (hw : s.wants = 0) (hs : s.st.length + s.out.length ≤ 98000) :
    Calls Tryz.prog 35 #[.pointer (some ⟨b, 0, none⟩), tokVal k a z tx v] w (AddRet b lo w (valueM s t)) := by
  have hk3 : (k == 3) = false := by
    rw [beq_eq_false_iff_ne]
    rintro rfl
    cases t with
    | lit x => exact absurd hT.1 (by decide)
    | sg c => exact absurd hT.1 (by decide)
    | word m =>
      have h := hT.2.2.2.2.1
      split at h <;> exact absurd h (by decide)
  unfold tokVal
  have HBx := Lib.hid (boxed hM #[.int .i64 k, .int .i64 a, .int .i64 z, .string tx, .int .i64 v.k, .int .i64 v.n, .string v.s] 63)
  have hGa : GlobE (w.alloc (.cells #[.int .i64 k, .int .i64 a, .int .i64 z, .string tx, .int .i64 v.k, .int .i64 v.n, .string v.s] 63)) := hG.below ((Below.refl _ _).alloc (Nat.le_refl _) _)
  have HC := Lib.hid (value_any b lo s t k a z tx v _ HBx.out.1 hGa hT (by omega))
  simp only [tokVal] at HC
  obtain ⟨⟨A1, c1, A2, c2, h1, h2, h3, h4⟩, h5, h6⟩ := hM
  have k0 := cell_alloc h1.c0 (.cells #[.int .i64 k, .int .i64 a, .int .i64 z, .string tx, .int .i64 v.k, .int .i64 v.n, .string v.s] 63)
  rw [hw] at k0
  clear hw
  clear h1 h2 h3 h4 hGa hT hok hG
  go_enter Tryz.func35, Tryz.ntmps35
  go_wp2_with (go_at_call 64; refine HC.out.mono ?_; rintro r w1 hr; obtain ⟨nn, rfl, hr⟩ := hr.num; have HR := Lib.hid hr; clear hr)
  go_ret
  exact HR.out.front HBx.out.2
set_option maxRecDepth 100000 in
set_option maxHeartbeats 4000000 in
theorem add_sign (b lo : Nat) (s : ST) (t : Tok) (k a z : Int) (tx : ByteArray) (v : V) (w : World) (hM : RdM w b lo s) (hG : GlobE w) (hT : TokIs t k tx v) (hok : OkS s) (hw : s.wants = 1) (hs : s.st.length + s.out.length ≤ 98000) :
    Calls Tryz.prog 35 #[.pointer (some ⟨b, 0, none⟩), tokVal k a z tx v] w (AddRet b lo w (signM s t)) := by
  have hk3 : (k == 3) = false := by
    rw [beq_eq_false_iff_ne]
    rintro rfl
    cases t with
    | lit x => exact absurd hT.1 (by decide)
    | sg c => exact absurd hT.1 (by decide)
    | word m =>
      have h := hT.2.2.2.2.1
      split at h <;> exact absurd h (by decide)
  unfold tokVal
  have HBx := Lib.hid (boxed hM #[.int .i64 k, .int .i64 a, .int .i64 z, .string tx, .int .i64 v.k, .int .i64 v.n, .string v.s] 63)
  have hGa : GlobE (w.alloc (.cells #[.int .i64 k, .int .i64 a, .int .i64 z, .string tx, .int .i64 v.k, .int .i64 v.n, .string v.s] 63)) := hG.below ((Below.refl _ _).alloc (Nat.le_refl _) _)
  have HC := Lib.hid (sign_tok b lo s t k a z tx v _ HBx.out.1 hGa hT hs)
  simp only [tokVal] at HC
  obtain ⟨⟨A1, c1, A2, c2, h1, h2, h3, h4⟩, h5, h6⟩ := hM
  have k0 := cell_alloc h1.c0 (.cells #[.int .i64 k, .int .i64 a, .int .i64 z, .string tx, .int .i64 v.k, .int .i64 v.n, .string v.s] 63)
  rw [hw] at k0
  clear hw
  clear h1 h2 h3 h4 hGa hT hok hG
  go_enter Tryz.func35, Tryz.ntmps35
  go_wp2_with (go_at_call 65; refine HC.out.mono ?_; rintro r w1 hr; obtain ⟨nn, rfl, hr⟩ := hr.num; have HR := Lib.hid hr; clear hr)
  go_ret
  exact HR.out.front HBx.out.2
set_option maxRecDepth 100000 in
set_option maxHeartbeats 4000000 in
theorem add_call (b lo : Nat) (s : ST) (t : Tok) (k a z : Int) (tx : ByteArray) (v : V) (w : World) (hM : RdM w b lo s) (hG : GlobE w) (hT : TokIs t k tx v) (hok : OkS s) (hw : s.wants = 2) (hs : s.st.length + s.out.length ≤ 98000) :
    Calls Tryz.prog 35 #[.pointer (some ⟨b, 0, none⟩), tokVal k a z tx v] w (AddRet b lo w (callM s t)) := by
  have hk3 : (k == 3) = false := by
    rw [beq_eq_false_iff_ne]
    rintro rfl
    cases t with
    | lit x => exact absurd hT.1 (by decide)
    | sg c => exact absurd hT.1 (by decide)
    | word m =>
      have h := hT.2.2.2.2.1
      split at h <;> exact absurd h (by decide)
  unfold tokVal
  have HBx := Lib.hid (boxed hM #[.int .i64 k, .int .i64 a, .int .i64 z, .string tx, .int .i64 v.k, .int .i64 v.n, .string v.s] 63)
  have hGa : GlobE (w.alloc (.cells #[.int .i64 k, .int .i64 a, .int .i64 z, .string tx, .int .i64 v.k, .int .i64 v.n, .string v.s] 63)) := hG.below ((Below.refl _ _).alloc (Nat.le_refl _) _)
  have HC := Lib.hid (callOpens_any b lo s t k a z tx v _ HBx.out.1 hT (hok.c hw) (by omega))
  simp only [tokVal] at HC
  obtain ⟨⟨A1, c1, A2, c2, h1, h2, h3, h4⟩, h5, h6⟩ := hM
  have k0 := cell_alloc h1.c0 (.cells #[.int .i64 k, .int .i64 a, .int .i64 z, .string tx, .int .i64 v.k, .int .i64 v.n, .string v.s] 63)
  rw [hw] at k0
  clear hw
  clear h1 h2 h3 h4 hGa hT hok hG
  go_enter Tryz.func35, Tryz.ntmps35
  go_wp2_with (go_at_call 66; refine HC.out.mono ?_; rintro r w1 hr; obtain ⟨nn, rfl, hr⟩ := hr.num; have HR := Lib.hid hr; clear hr)
  go_ret
  exact HR.out.front HBx.out.2
set_option maxRecDepth 100000 in
set_option maxHeartbeats 4000000 in
theorem add_name (b lo : Nat) (s : ST) (t : Tok) (k a z : Int) (tx : ByteArray) (v : V) (w : World) (hM : RdM w b lo s) (hG : GlobE w) (hT : TokIs t k tx v) (hok : OkS s) (hw : s.wants = 3) (hs : s.st.length + s.out.length ≤ 98000) :
    Calls Tryz.prog 35 #[.pointer (some ⟨b, 0, none⟩), tokVal k a z tx v] w (AddRet b lo w (nameM s t)) := by
  have hk3 : (k == 3) = false := by
    rw [beq_eq_false_iff_ne]
    rintro rfl
    cases t with
    | lit x => exact absurd hT.1 (by decide)
    | sg c => exact absurd hT.1 (by decide)
    | word m =>
      have h := hT.2.2.2.2.1
      split at h <;> exact absurd h (by decide)
  unfold tokVal
  have HBx := Lib.hid (boxed hM #[.int .i64 k, .int .i64 a, .int .i64 z, .string tx, .int .i64 v.k, .int .i64 v.n, .string v.s] 63)
  have hGa : GlobE (w.alloc (.cells #[.int .i64 k, .int .i64 a, .int .i64 z, .string tx, .int .i64 v.k, .int .i64 v.n, .string v.s] 63)) := hG.below ((Below.refl _ _).alloc (Nat.le_refl _) _)
  have HC := Lib.hid (name_tok b lo s t k a z tx v _ HBx.out.1 hT (hok.n hw) (by omega))
  simp only [tokVal] at HC
  obtain ⟨⟨A1, c1, A2, c2, h1, h2, h3, h4⟩, h5, h6⟩ := hM
  have k0 := cell_alloc h1.c0 (.cells #[.int .i64 k, .int .i64 a, .int .i64 z, .string tx, .int .i64 v.k, .int .i64 v.n, .string v.s] 63)
  rw [hw] at k0
  clear hw
  clear h1 h2 h3 h4 hGa hT hok hG
  go_enter Tryz.func35, Tryz.ntmps35
  go_wp2_with (go_at_call 67; refine HC.out.mono ?_; rintro r w1 hr; obtain ⟨nn, rfl, hr⟩ := hr.num; have HR := Lib.hid hr; clear hr)
  go_ret
  exact HR.out.front HBx.out.2
set_option maxRecDepth 100000 in
set_option maxHeartbeats 4000000 in
theorem add_shut (b lo : Nat) (s : ST) (t : Tok) (k a z : Int) (tx : ByteArray) (v : V) (w : World) (hM : RdM w b lo s) (hG : GlobE w) (hT : TokIs t k tx v) (hok : OkS s) (hw : s.wants = 4) (hs : s.st.length + s.out.length ≤ 98000) :
    Calls Tryz.prog 35 #[.pointer (some ⟨b, 0, none⟩), tokVal k a z tx v] w (AddRet b lo w (shutM s t)) := by
  have hk3 : (k == 3) = false := by
    rw [beq_eq_false_iff_ne]
    rintro rfl
    cases t with
    | lit x => exact absurd hT.1 (by decide)
    | sg c => exact absurd hT.1 (by decide)
    | word m =>
      have h := hT.2.2.2.2.1
      split at h <;> exact absurd h (by decide)
  unfold tokVal
  have HBx := Lib.hid (boxed hM #[.int .i64 k, .int .i64 a, .int .i64 z, .string tx, .int .i64 v.k, .int .i64 v.n, .string v.s] 63)
  have hGa : GlobE (w.alloc (.cells #[.int .i64 k, .int .i64 a, .int .i64 z, .string tx, .int .i64 v.k, .int .i64 v.n, .string v.s] 63)) := hG.below ((Below.refl _ _).alloc (Nat.le_refl _) _)
  have HC := Lib.hid (shut_tok b lo s t k a z tx v _ HBx.out.1 hT hs)
  simp only [tokVal] at HC
  obtain ⟨⟨A1, c1, A2, c2, h1, h2, h3, h4⟩, h5, h6⟩ := hM
  have k0 := cell_alloc h1.c0 (.cells #[.int .i64 k, .int .i64 a, .int .i64 z, .string tx, .int .i64 v.k, .int .i64 v.n, .string v.s] 63)
  rw [hw] at k0
  clear hw
  clear h1 h2 h3 h4 hGa hT hok hG
  go_enter Tryz.func35, Tryz.ntmps35
  go_wp2_with (go_at_call 68; refine HC.out.mono ?_; rintro r w1 hr; obtain ⟨nn, rfl, hr⟩ := hr.num; have HR := Lib.hid hr; clear hr)
  go_ret
  exact HR.out.front HBx.out.2
theorem add_any (b lo : Nat) (s : ST) (t : Tok) (k a z : Int) (tx : ByteArray) (v : V) (w : World) (hM : RdM w b lo s) (hG : GlobE w) (hT : TokIs t k tx v) (hok : OkS s) (hs : s.st.length + s.out.length ≤ 98000) :
    Calls Tryz.prog 35 #[.pointer (some ⟨b, 0, none⟩), tokVal k a z tx v] w (AddRet b lo w (addM s t)) := by
  unfold addM
  have := hok.w
  by_cases h0 : s.wants = 0
  · rw [if_pos h0]; exact add_value b lo s t k a z tx v w hM hG hT hok h0 hs
  rw [if_neg h0]
  by_cases h1 : s.wants = 1
  · rw [if_pos h1]; exact add_sign b lo s t k a z tx v w hM hG hT hok h1 hs
  rw [if_neg h1]
  by_cases h2 : s.wants = 2
  · rw [if_pos h2]; exact add_call b lo s t k a z tx v w hM hG hT hok h2 hs
  rw [if_neg h2]
  by_cases h3 : s.wants = 3
  · rw [if_pos h3]; exact add_name b lo s t k a z tx v w hM hG hT hok h3 hs
  rw [if_neg h3]
  exact add_shut b lo s t k a z tx v w hM hG hT hok (by omega) hs
set_option maxRecDepth 100000 in
set_option maxHeartbeats 4000000 in
theorem add_end (b lo : Nat) (s : ST) (a z : Int) (tx : ByteArray) (v : V) (w : World) (hM : RdM w b lo s) (hs : s.st.length + s.out.length ≤ 98000) :
    Calls Tryz.prog 35 #[.pointer (some ⟨b, 0, none⟩), tokVal 3 a z tx v] w fun r w' => Foot b lo w w' ∧ match endM s with
      | .inl o => r = .returned (.int .i64 0) ∧ ∃ s', s'.out = o ∧ RdM w' b lo s'
      | .inr e => r = .returned (.int .i64 e) := by
  have HBx := Lib.hid (boxed hM #[.int .i64 3, .int .i64 a, .int .i64 z, .string tx, .int .i64 v.k, .int .i64 v.n, .string v.s] 63)
  have HC := Lib.hid (dEnd_any b lo s _ HBx.out.1 (by omega))
  simp only [tokVal]
  clear hM
  cases he : endM s with
  | inl o =>
    rw [he] at HC
    simp only at HC ⊢
    clear he
    go_enter Tryz.func35, Tryz.ntmps35
    go_wp2_with (go_at_call 63; refine HC.out.mono ?_; rintro r w1 ⟨hf, rfl, s', hs', hm'⟩; have HF := Lib.hid hf; have HM := Lib.hid hm'; clear hf hm')
    go_ret
    exact ⟨HBx.out.2.trans HF.out, rfl, s', hs', HM.out⟩
  | inr e =>
    rw [he] at HC
    simp only at HC ⊢
    clear he
    go_enter Tryz.func35, Tryz.ntmps35
    go_wp2_with (go_at_call 63; refine HC.out.mono ?_; rintro r w1 ⟨hf, rfl⟩; have HF := Lib.hid hf; clear hf)
    go_ret
    exact ⟨HBx.out.2.trans HF.out, rfl⟩
end Go.Proofs.YtfpjepeikjfkpaaGreatDoor
