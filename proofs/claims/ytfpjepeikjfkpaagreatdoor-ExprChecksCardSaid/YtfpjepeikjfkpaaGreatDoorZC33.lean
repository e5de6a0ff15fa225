import Derived.Test.YtfpjepeikjfkpaaGreatDoorZC32
/-
  Package expr: Parse of any text.
-/
namespace Go.Proofs.YtfpjepeikjfkpaaGreatDoor
open Go.RowKit

def atW : List UInt8 := [97, 116, 32]
/-- The place of an error. -/
def placeW (p : Nat) : ByteArray := ⟨(atW ++ natL p).toArray⟩
def placesE : Option Nat → List ByteArray
  | none => []
  | some p => [placeW p]
/-- What Parse gives, and leaves. -/
def ParseRet (w : World) (x : List TM ⊕ (Int × Option Nat)) (r : Ending) (w' : World) : Prop :=
  Below w.heap.size w w' ∧ match x with
  | .inl o => ∃ A c, r = .returned (.tuple #[.slice A o.length c, .nilIface]) ∧ RowT w' w.heap.size w'.heap.size A o
  | .inr (e, p) => ∃ v, r = .returned (.tuple #[.slice none 0 0, v]) ∧ Err w' w'.heap.size (End.num e) (placesE p) v
theorem natL_le (n : Nat) : (natL n).length ≤ n + 1 := by
  induction n using Nat.strongRecOn with
  | _ n ih =>
    by_cases h : n < 10
    · rw [natL_small h]; simp
    · rw [natL_big (by omega), List.length_append]
      have := ih (n / 10) (by omega)
      simp
      omega
theorem intL_nat (p : Nat) : intL (p : Int) = natL p := by
  unfold intL
  rw [if_neg (by omega)]
  simp

set_option maxRecDepth 100000 in
set_option maxHeartbeats 4000000 in
theorem parse_long (s : ByteArray) (hn : s.size ≤ 1000000) (h128 : 128 < s.size) (w : World) :
    Calls Tryz.prog 19 #[.string s] w (ParseRet w (.inr (3, none))) := by
  have d1 : decide ((128 : Int) < (s.size : Int)) = true := by rw [decide_eq_true_iff]; omega
  have HO := Lib.hid (of_num 3 w (by decide))
  go_enter Tryz.func19, Tryz.ntmps19
  go_wp2_with fail
  go_step3
  go_wp2_with (go_at_call 33; refine HO.out.mono ?_; rintro r w1 ⟨rfl, rfl⟩)
  rw [Exit.noGoto_ret]
  refine bodyPost_ret (v := .tuple #[.slice none 0 0, .iface 25 (.int .i64 3)]) (by simp [results, Tryz.results19, go_sem]) rfl ?_
  exact ⟨Below.refl _ _, _, rfl, rfl⟩

/-- The token's box holds. -/
def BoxT (w : World) (g : Nat) (p : Nat) : Prop := ∃ k a tx vk vn vs, w.heap[g]? = some (.cells #[.int .i64 k, .int .i64 a, .int .i64 (p : Int), .string tx, .int .i64 vk, .int .i64 vn, .string vs] 63 (0, 0))
set_option maxRecDepth 100000 in
set_option maxHeartbeats 8000000 in
theorem dParse_any (s : ByteArray) (hn : s.size ≤ 1000000) (w : World) (hG : GlobE w) :
    Calls Tryz.prog 19 #[.string s] w (ParseRet w (parseE s.data.toList)) := by
  by_cases h128 : 128 < s.size
  · have e : parseE s.data.toList = .inr (3, none) := by
      unfold parseE
      rw [if_pos (show 128 < s.data.toList.length from h128)]
    rw [e]
    exact parse_long s hn h128 w
  have d1 : decide ((128 : Int) < (s.size : Int)) = false := by rw [decide_eq_false_iff_not]; omega
  have hpe : parseE s.data.toList = match runE st0 s.data.toList 0 with
      | .inr (e, p) => .inr (e, some p)
      | .inl o => if 40 < o.length then .inr (3, none) else .inl o := by
    unfold parseE
    rw [if_neg (show ¬ 128 < s.data.toList.length from h128)]
    cases runE st0 s.data.toList 0 <;> rfl
  obtain ⟨X, hX⟩ : ∃ X, X = parseE s.data.toList := ⟨_, rfl⟩
  rw [← hX]
  rw [hpe] at hX
  have HX := Lib.hid hX
  have hGb := hG.g.big
  have HG := Lib.hid hG
  clear hpe hX hG
  go_enter Tryz.func19, Tryz.ntmps19
  go_wp2_with fail
  go_step3
  go_wp2_with fail
  go_step3
  go_wp2_with fail
  go_loopg [6] s.size (fun q u wr => ∃ (p : Nat) (st : ST), u = .int .i64 0 ∧ p + q = s.size ∧ RdM wr w.heap.size (w.heap.size + 2) st ∧ OkS st ∧ totS st ≤ p ∧ BoxT wr (w.heap.size + 1) p ∧ runE st0 s.data.toList 0 = runE st (s.data.toList.drop p) p ∧ Below w.heap.size w wr)
  case atStart =>
    refine ⟨0, st0, rfl, by omega, ⟨⟨none, 0, none, 0, ?_, OwnT.nil _ _, OwnT.nil _ _, fun g h => by cases h⟩, by omega, by simp⟩, ⟨⟨by decide, by decide⟩, fun h => absurd h (by decide), fun h => absurd h (by decide)⟩, Nat.le_refl _, ⟨0, 0, ⟨#[]⟩, 0, 0, ⟨#[]⟩, ?_⟩, rfl, ?_⟩
    · unfold RdE
      exact heap_alloc2_old w _ _
    · exact heap_alloc2_new w _ _
    · exact ((Below.refl w.heap.size w).alloc (Nat.le_refl _) _).alloc (by simp) _
  case round =>
    obtain ⟨p, st, rfl, hk, hm, hok, htot, hbx, hrun, hb⟩ := hrel
    obtain ⟨kk, aa, txx, vk0, vn0, vs0, hbx⟩ := hbx
    have x2 := cellAt (o := 2) hbx rfl
    have HK := Lib.hid hk
    have HM := Lib.hid hm
    have HOk := Lib.hid hok
    have HB := Lib.hid hb
    have HRun := Lib.hid hrun
    have HBx := Lib.hid hbx
    have HGr := Lib.hid (HG.out.below hb)
    have HNx := Lib.hid (next_any s p (by omega) (by omega) wr HGr.out)
    clear hk hm hok hb hrun hbx
    go_wp2_with fail
    refine HNx.out.mono ?_
    rintro r w1 ⟨p', k, z, tx, v, e, rfl, hb1, hpp, hps, hsp, hN⟩
    have HB1 := Lib.hid hb1
    have HSp := Lib.hid hsp
    have hbx1 := (hb1.block (w.heap.size + 1) (Array.getElem?_eq_some_iff.1 HBx.out).1).trans HBx.out
    have y0 := cellAt (o := 0) hbx1 rfl
    have y1 := cellAt (o := 1) hbx1 rfl
    have y2 := cellAt (o := 2) hbx1 rfl
    have y3 := cellAt (o := 3) hbx1 rfl
    have y4 := cellAt (o := 4) hbx1 rfl
    have y5 := cellAt (o := 5) hbx1 rfl
    have y6 := cellAt (o := 6) hbx1 rfl
    have z0 := frozenAt (o := 0) hbx1
    have z1 := frozenAt (o := 1) hbx1
    have z2 := frozenAt (o := 2) hbx1
    have z3 := frozenAt (o := 3) hbx1
    have z4 := frozenAt (o := 4) hbx1
    have z5 := frozenAt (o := 5) hbx1
    have z6 := frozenAt (o := 6) hbx1
    have HBx1 := Lib.hid hbx1
    clear hb1 hsp hbx1
    simp only [retTok, tokVal]
    go_upto_region 7 with fail
    obtain ⟨W2, hW2⟩ : ∃ y, ((((((w1.setCell ⟨w.heap.size + 1, 0, none⟩ (.int .i64 k)).setCell ⟨w.heap.size + 1, 1, none⟩ (.int .i64 (p' : Int))).setCell ⟨w.heap.size + 1, 2, none⟩ (.int .i64 z)).setCell ⟨w.heap.size + 1, 3, none⟩ (.string tx)).setCell ⟨w.heap.size + 1, 4, none⟩ (.int .i64 v.k)).setCell ⟨w.heap.size + 1, 5, none⟩ (.int .i64 v.n)).setCell ⟨w.heap.size + 1, 6, none⟩ (.string v.s) = y := ⟨_, rfl⟩
    have hbk := set7 HBx1.out (.int .i64 k) (.int .i64 (p' : Int)) (.int .i64 z) (.string tx) (.int .i64 v.k) (.int .i64 v.n) (.string v.s)
    rw [hW2] at hbk
    have hoth : ∀ q, q ≠ w.heap.size + 1 → W2.heap[q]? = w1.heap[q]? := fun q hq => by
      rw [← hW2]
      iterate 7 rw [heap_setCell_other _ _ _ _ (by show q ≠ _; exact hq)]
    have hW2s : W2.heap.size = w1.heap.size := by rw [← hW2]; simp [World.setCell]
    have hW2b : Below w.heap.size w W2 := by
      have h := HB.out.trans (HB1.out.mono HB.out.size)
      rw [← hW2]
      repeat (refine Below.setCell ?_ (by show _ ≤ _; simp) _)
      exact h
    rw [hW2]
    have hM2 : RdM W2 w.heap.size (w.heap.size + 2) st := by
      obtain ⟨⟨A1, c1, A2, c2, h1, h2, h3, h4⟩, h5, h6⟩ := HM.out.below HB1.out
      refine ⟨⟨A1, c1, A2, c2, h1.keep (hoth _ (by omega)), h2.keep (fun g hg _ => hoth g (by have := (h2.lt g hg).1; omega)) (Nat.le_refl _), h3.keep (fun g hg _ => hoth g (by have := (h3.lt g hg).1; omega)) (Nat.le_refl _), h4⟩, h5, by rw [hW2s]; exact h6⟩
    have HM2 := Lib.hid hM2
    have HB2 := Lib.hid hW2b
    have HG2 := Lib.hid (HG.out.below hW2b)
    have HBk := Lib.hid hbk
    have u0 := cellAt (o := 0) hbk rfl
    have u1 := cellAt (o := 1) hbk rfl
    have u2 := cellAt (o := 2) hbk rfl
    have u3 := cellAt (o := 3) hbk rfl
    have u4 := cellAt (o := 4) hbk rfl
    have u5 := cellAt (o := 5) hbk rfl
    have u6 := cellAt (o := 6) hbk rfl
    have hrun' : runE st0 s.data.toList 0 = runE st (s.data.toList.drop p') p' := by
      rw [HRun.out, HSp.out, runE_blanks]
      congr 1
      omega
    have HR' := Lib.hid hrun'
    clear hW2 hbk hoth hW2b hM2 hrun' y0 y1 y2 y3 y4 y5 y6 z0 z1 z2 z3 z4 z5 z6 x2
    rcases hN with ⟨hl, rfl, rfl⟩ | ⟨c, r0, hl, hc32, ⟨t, n, ht, hT, hz, rfl, hnl⟩ | ht⟩
    · -- the end
      have HAd := Lib.hid (add_end w.heap.size (w.heap.size + 2) st (p' : Int) z tx v W2 HM2.out (by unfold totS at htot; omega))
      have hrE : runE st0 s.data.toList 0 = match endM st with | .inl o => .inl o | .inr e => .inr (e, p') := by
        rw [HR'.out, hl]
        exact runE_nil st p'
      simp only [tokVal] at HAd
      cases hEM : endM st with
      | inl o =>
        rw [hEM] at HAd hrE
        have HXE := Lib.hid (show X = if 40 < o.length then .inr (3, none) else .inl o by rw [HX.out, hrE])
        simp only at HAd
        clear hEM hrE hl
        go_wp2_with fail
        refine HAd.out.mono ?_
        rintro r w3 ⟨hf3, rfl, s', hs', hm3⟩
        have hk3 := (hf3.block (w.heap.size + 1) (by omega) (by omega)).trans HBk.out
        have q0 := cellAt (o := 0) hk3 rfl
        have HB3 := Lib.hid (show Below w.heap.size w w3 from HB2.out.trans (hf3.below (Nat.le_refl _) (by omega)))
        obtain ⟨⟨A1, c1, A2, c2, h1, h2, h3, h4⟩, h5, h6⟩ := hm3
        have k4 := h1.c4
        have HO3 := Lib.hid h3
        rw [hs'] at k4 HO3
        clear h1 h2 h3 h4 hf3 hk3
        by_cases h40 : 40 < o.length
        · have e40 : decide ((40 : Int) < (o.length : Int)) = true := by rw [decide_eq_true_iff]; omega
          have e40' : decide (40 < o.length) = true := by simpa using h40
          have HXF := Lib.hid (show X = .inr (3, none) by rw [HXE.out, if_pos h40])
          go_wp2_with (go_at_call 33; refine (of_num 3 _ (by decide)).mono ?_; rintro r w6 ⟨rfl, rfl⟩)
          rw [Exit.noGoto_ret]
          refine bodyPost_ret (v := .tuple #[.slice none 0 0, .iface 25 (.int .i64 3)]) (by simp [results, Tryz.results19, go_sem]) rfl ?_
          rw [HXF.out]
          exact ⟨HB3.out, _, rfl, rfl⟩
        · have e40 : decide ((40 : Int) < (o.length : Int)) = false := by rw [decide_eq_false_iff_not]; omega
          have e40' : decide (40 < o.length) = false := by simpa using h40
          have HXF := Lib.hid (show X = .inl o by rw [HXE.out, if_neg h40])
          go_wp2_with fail
          rw [Exit.noGoto_ret]
          refine bodyPost_ret (v := .tuple #[.slice A2 o.length c2, .nilIface]) (by simp [results, Tryz.results19, go_sem]) rfl ?_
          rw [HXF.out]
          exact ⟨HB3.out, A2, c2, rfl, (HO3.out.reads).wide (by omega) (Nat.le_refl _)⟩
      | inr e2 =>
        rw [hEM] at HAd hrE
        have HE0 := Lib.hid (endM_err hEM)
        have HXE := Lib.hid (show X = .inr (e2, some p') by rw [HX.out, hrE])
        simp only at HAd
        clear hEM hrE hl
        go_wp2_with fail
        refine HAd.out.mono ?_
        rintro r w3 ⟨hf3, rfl⟩
        have hk3 := (hf3.block (w.heap.size + 1) (by omega) (by omega)).trans HBk.out
        have q0 := cellAt (o := 0) hk3 rfl
        have q1 := cellAt (o := 1) hk3 rfl
        have HB3 := Lib.hid (show Below w.heap.size w w3 from HB2.out.trans (hf3.below (Nat.le_refl _) (by omega)))
        have HG3 := Lib.hid (HG.out.below HB3.out)
        clear hf3 hk3
        have HPl := Lib.hid (show (⟨#[97, 116, 32]⟩ : ByteArray) ++ ⟨(intL (p' : Int)).toArray⟩ = placeW p' from by
          apply ba_list
          simp [placeW, atW, intL_nat])
        have hPs : (⟨(intL (p' : Int)).toArray⟩ : ByteArray).size ≤ 1000 := by
          rw [intL_nat]
          have := natL_le p'
          show (natL p').toArray.size ≤ 1000
          rw [List.size_toArray]
          omega
        have HIt := Lib.hid (dItoa_any (p' : Int) (by omega) (by omega) w3 HG3.out.tab)
        generalize (⟨(intL (p' : Int)).toArray⟩ : ByteArray) = P at *
        have HOf := Lib.hid (fun wx => of_num e2 wx HE0.out)
        have HWr := Lib.hid (fun wx => wrap_any (⟨#[97, 116, 32]⟩ ++ P) [] (.iface 25 (.int .i64 e2)) (End.num e2) 0 wx rfl (.inr (by intro h; cases h)) (Nat.zero_le _))
        have g0 : (e2 == 0) = false := by rw [beq_eq_false_iff_ne]; exact HE0.out
        have g1 : (e2 != 0) = true := by rw [bne, g0]; rfl
        go_wp2_with (first | (go_at_call 37; refine HIt.out.mono ?_; rintro r w5 ⟨rfl, hb5⟩; have HB5 := Lib.hid hb5; clear hb5) | (go_at_call 33; refine (HOf.out _).mono ?_; rintro r w6 ⟨rfl, rfl⟩) | (go_at_call 36; refine (HWr.out _).mono ?_; rintro r w7 ⟨v7, rfl, hv7, hb7⟩; have HV7 := Lib.hid hv7; have HB7 := Lib.hid hb7; clear hv7 hb7))
        rw [Exit.noGoto_ret]
        refine bodyPost_ret (v := .tuple #[.slice none 0 0, v7]) (by simp [results, Tryz.results19, go_sem]) rfl ?_
        rw [HXE.out]
        refine ⟨(HB3.out.trans (HB5.out.mono HB3.out.size)).trans (HB7.out.mono (Nat.le_trans HB3.out.size HB5.out.size)), v7, rfl, ?_⟩
        have := HV7.out
        rw [HPl.out] at this
        exact this
    · -- a token
      subst hz
      have HAd := Lib.hid (add_any w.heap.size (w.heap.size + 2) st t k (p' : Int) ((p' : Int) + (n : Int)) tx v W2 HM2.out HG2.out hT HOk.out (by unfold totS at htot; omega))
      have hk03 : (k == 3) = false := by
        rw [beq_eq_false_iff_ne]
        rintro rfl
        cases t with
        | lit x => exact absurd hT.1 (by decide)
        | sg c => exact absurd hT.1 (by decide)
        | word m =>
          have h := hT.2.2.2.2.1
          split at h <;> exact absurd h (by decide)
      simp only [tokVal] at HAd
      rw [hl] at ht
      clear hT
      cases hAM : addM st t with
      | inl s' =>
        rw [hAM] at HAd
        obtain ⟨hok2, htot2⟩ := add_ok hAM HOk.out
        have hn0 := tok_len ht
        have hrE : runE st0 s.data.toList 0 = runE s' (s.data.toList.drop (p' + n)) (p' + n) := by
          have hd : (c :: r0).drop n = s.data.toList.drop (p' + n) := by rw [← hl, List.drop_drop]
          rw [HR'.out, hl, runE_on hc32 ht hAM, hd]
        have hps2 : p' + n ≤ s.size := by
          have h1 : (s.data.toList.drop p').length = s.size - p' := by rw [List.length_drop]; rfl
          omega
        have hz' : (p' : Int) + (n : Int) = ((p' + n : Nat) : Int) := by omega
        have HZ := Lib.hid hz'
        clear hz'
        have HRE := Lib.hid hrE
        have HOk2 := Lib.hid hok2
        clear hrE hAM hok2
        go_wp2_with fail
        refine HAd.out.mono ?_
        rintro r w3 ⟨rfl, hm3, hf3⟩
        have hk3 := (hf3.block (w.heap.size + 1) (by omega) (by omega)).trans HBk.out
        have q0 := cellAt (o := 0) hk3 rfl
        have HK3 := Lib.hid hk3
        have HM3 := Lib.hid hm3
        have HB3 := Lib.hid (show Below w.heap.size w w3 from HB2.out.trans (hf3.below (Nat.le_refl _) (by omega)))
        clear hf3 hk3 hm3
        go_wp2_with fail
        go_roundg (s.size - (p' + n))
        case measure => have := HK.out; omega
        case rel =>
          refine ⟨p' + n, s', rfl, by omega, HM3.out, HOk2.out, by omega, ⟨k, (p' : Int), tx, v.k, v.n, v.s, ?_⟩, HRE.out, HB3.out⟩
          have := HK3.out
          rw [HZ.out] at this
          exact this
      | inr e2 =>
        rw [hAM] at HAd
        have HE0 := Lib.hid (addM_err hAM)
        have HXE := Lib.hid (show X = .inr (e2, some p') by rw [HX.out, HR'.out, hl, runE_no hc32 ht hAM])
        clear hAM
        go_wp2_with fail
        refine HAd.out.mono ?_
        rintro r w3 ⟨rfl, hf3⟩
        have hk3 := (hf3.block (w.heap.size + 1) (by omega) (by omega)).trans HBk.out
        have q0 := cellAt (o := 0) hk3 rfl
        have q1 := cellAt (o := 1) hk3 rfl
        have HB3 := Lib.hid (show Below w.heap.size w w3 from HB2.out.trans (hf3.below (Nat.le_refl _) (by omega)))
        have HG3 := Lib.hid (HG.out.below HB3.out)
        clear hf3 hk3
        have HPl := Lib.hid (show (⟨#[97, 116, 32]⟩ : ByteArray) ++ ⟨(intL (p' : Int)).toArray⟩ = placeW p' from by
          apply ba_list
          simp [placeW, atW, intL_nat])
        have hPs : (⟨(intL (p' : Int)).toArray⟩ : ByteArray).size ≤ 1000 := by
          rw [intL_nat]
          have := natL_le p'
          show (natL p').toArray.size ≤ 1000
          rw [List.size_toArray]
          omega
        have HIt := Lib.hid (dItoa_any (p' : Int) (by omega) (by omega) w3 HG3.out.tab)
        generalize (⟨(intL (p' : Int)).toArray⟩ : ByteArray) = P at *
        have HOf := Lib.hid (fun wx => of_num e2 wx HE0.out)
        have HWr := Lib.hid (fun wx => wrap_any (⟨#[97, 116, 32]⟩ ++ P) [] (.iface 25 (.int .i64 e2)) (End.num e2) 0 wx rfl (.inr (by intro h; cases h)) (Nat.zero_le _))
        have g0 : (e2 == 0) = false := by rw [beq_eq_false_iff_ne]; exact HE0.out
        have g1 : (e2 != 0) = true := by rw [bne, g0]; rfl
        go_wp2_with (first | (go_at_call 37; refine HIt.out.mono ?_; rintro r w5 ⟨rfl, hb5⟩; have HB5 := Lib.hid hb5; clear hb5) | (go_at_call 33; refine (HOf.out _).mono ?_; rintro r w6 ⟨rfl, rfl⟩) | (go_at_call 36; refine (HWr.out _).mono ?_; rintro r w7 ⟨v7, rfl, hv7, hb7⟩; have HV7 := Lib.hid hv7; have HB7 := Lib.hid hb7; clear hv7 hb7))
        rw [Exit.noGoto_ret]
        refine bodyPost_ret (v := .tuple #[.slice none 0 0, v7]) (by simp [results, Tryz.results19, go_sem]) rfl ?_
        rw [HXE.out]
        refine ⟨(HB3.out.trans (HB5.out.mono HB3.out.size)).trans (HB7.out.mono (Nat.le_trans HB3.out.size HB5.out.size)), v7, rfl, ?_⟩
        have := HV7.out
        rw [HPl.out] at this
        exact this
    · -- no token
      rw [hl] at ht
      have HE0 := Lib.hid (tokAt_err ht (by simp))
      have HXE := Lib.hid (show X = .inr (e, some p') by rw [HX.out, HR'.out, hl, runE_bad hc32 ht])
      have HB3 := Lib.hid HB2.out
      have HG3 := Lib.hid HG2.out
      have HPl := Lib.hid (show (⟨#[97, 116, 32]⟩ : ByteArray) ++ ⟨(intL (p' : Int)).toArray⟩ = placeW p' from by
        apply ba_list
        simp [placeW, atW, intL_nat])
      have hPs : (⟨(intL (p' : Int)).toArray⟩ : ByteArray).size ≤ 1000 := by
        rw [intL_nat]
        have := natL_le p'
        show (natL p').toArray.size ≤ 1000
        rw [List.size_toArray]
        omega
      have HIt := Lib.hid (dItoa_any (p' : Int) (by omega) (by omega) W2 HG3.out.tab)
      generalize (⟨(intL (p' : Int)).toArray⟩ : ByteArray) = P at *
      have HOf := Lib.hid (fun wx => of_num e wx HE0.out)
      have HWr := Lib.hid (fun wx => wrap_any (⟨#[97, 116, 32]⟩ ++ P) [] (.iface 25 (.int .i64 e)) (End.num e) 0 wx rfl (.inr (by intro h; cases h)) (Nat.zero_le _))
      have g0 : (e == 0) = false := by rw [beq_eq_false_iff_ne]; exact HE0.out
      have g1 : (e != 0) = true := by rw [bne, g0]; rfl
      go_wp2_with (first | (go_at_call 37; refine HIt.out.mono ?_; rintro r w5 ⟨rfl, hb5⟩; have HB5 := Lib.hid hb5; clear hb5) | (go_at_call 33; refine (HOf.out _).mono ?_; rintro r w6 ⟨rfl, rfl⟩) | (go_at_call 36; refine (HWr.out _).mono ?_; rintro r w7 ⟨v7, rfl, hv7, hb7⟩; have HV7 := Lib.hid hv7; have HB7 := Lib.hid hb7; clear hv7 hb7))
      rw [Exit.noGoto_ret]
      refine bodyPost_ret (v := .tuple #[.slice none 0 0, v7]) (by simp [results, Tryz.results19, go_sem]) rfl ?_
      rw [HXE.out]
      refine ⟨(HB3.out.trans (HB5.out.mono HB3.out.size)).trans (HB7.out.mono (Nat.le_trans HB3.out.size HB5.out.size)), v7, rfl, ?_⟩
      have := HV7.out
      rw [HPl.out] at this
      exact this
end Go.Proofs.YtfpjepeikjfkpaaGreatDoor
