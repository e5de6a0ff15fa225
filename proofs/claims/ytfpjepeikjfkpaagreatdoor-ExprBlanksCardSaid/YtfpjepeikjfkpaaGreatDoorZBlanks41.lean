import Derived.Test.YtfpjepeikjfkpaaGreatDoorZBlanks40
/-
  Package expr: a reader is given a token.
-/
namespace Go.Proofs.YtfpjepeikjfkpaaGreatDoor
open Go.RowKit

set_option maxRecDepth 100000 in
set_option maxHeartbeats 4000000 in
theorem sign_close (b lo : Nat) (s : ST) (a z : Int) (w : World) (hM : RdM w b lo s) (hs : s.st.length + s.out.length ≤ 98000) :
    Calls Tryz.prog 65 #[.pointer (some ⟨b, 0, none⟩), .agg #[.int .i64 0, .int .i64 a, .int .i64 z, .string ⟨#[41]⟩, .int .i64 0, .int .i64 0, .string ⟨#[]⟩]] w (AddRet b lo w (closeM s)) := by
  have HBx := Lib.hid (boxed hM #[.int .i64 0, .int .i64 a, .int .i64 z, .string ⟨#[41]⟩, .int .i64 0, .int .i64 0, .string ⟨#[]⟩] 63)
  have HC := Lib.hid (closeBr_yes b lo s 0 a z ⟨#[41]⟩ V0 _ HBx.out.1 rfl (by omega))
  simp only [tokVal, V0] at HC
  clear hM
  go_enter Tryz.func65, Tryz.ntmps65
  go_wp2_with (go_at_call 68; refine HC.out.mono ?_; rintro r w1 hr; obtain ⟨nn, rfl, hr⟩ := hr.num; have HR := Lib.hid hr; clear hr)
  go_ret
  exact HR.out.front HBx.out.2
set_option maxRecDepth 100000 in
set_option maxHeartbeats 4000000 in
theorem sign_no (b lo : Nat) (s : ST) (k a z : Int) (tx : ByteArray) (v : V) (ht : tx.data.toList ≠ [41]) (hsg : signedF 13 6 tx.data.toList = (0, false)) (w : World) (hM : RdM w b lo s) (hG : GlobE w) :
    Calls Tryz.prog 65 #[.pointer (some ⟨b, 0, none⟩), tokVal k a z tx v] w (AddRet b lo w (.inr 8)) := by
  unfold tokVal
  have hbx := boxed hM #[.int .i64 k, .int .i64 a, .int .i64 z, .string tx, .int .i64 v.k, .int .i64 v.n, .string v.s] 63
  obtain ⟨wa, hwa⟩ : ∃ y, w.alloc (.cells #[.int .i64 k, .int .i64 a, .int .i64 z, .string tx, .int .i64 v.k, .int .i64 v.n, .string v.s] 63) = y := ⟨_, rfl⟩
  rw [hwa] at hbx
  have hwsz : wa.heap.size = w.heap.size + 1 := by rw [← hwa]; simp
  have hGa : GlobE wa := by rw [← hwa]; exact hG.below ((Below.refl _ _).alloc (Nat.le_refl _) _)
  have hbk : wa.heap[w.heap.size]? = some (.cells #[.int .i64 k, .int .i64 a, .int .i64 z, .string tx, .int .i64 v.k, .int .i64 v.n, .string v.s] 63 (0, 0)) := by rw [← hwa]; exact heap_alloc_new w _
  have y0 := cellAt (o := 0) hbk rfl
  have y1 := cellAt (o := 1) hbk rfl
  have y2 := cellAt (o := 2) hbk rfl
  have y3 := cellAt (o := 3) hbk rfl
  have y4 := cellAt (o := 4) hbk rfl
  have y5 := cellAt (o := 5) hbk rfl
  have y6 := cellAt (o := 6) hbk rfl
  clear hbk
  have HA := Lib.hid hbx
  have HS := Lib.hid (signed_any tx 6 18 (by omega) (by omega) wa hGa)
  rw [show signedF (18 + 1 - 6) 6 tx.data.toList = (0, false) from hsg] at HS
  have HWA := Lib.hid hwa
  have b1 : ¬ tx.toList = [41] := fun h => ht (ba_text.2 h)
  have g1 : (tx.toList == [41]) = false := by rw [beq_eq_false_iff_ne]; exact b1
  clear hM hbx hGa hwa ht hsg
  go_enter Tryz.func65, Tryz.ntmps65
  go_upto_region 1 with fail
  rw [HWA.out]
  go_wp2_with (go_at_call 105; refine HS.out.mono ?_; rintro r w1 ⟨rfl, rfl⟩)
  go_ret
  exact ⟨rfl, HA.out.2⟩
theorem sign_tok (b lo : Nat) (s : ST) (t : Tok) (k a z : Int) (tx : ByteArray) (v : V) (w : World) (hM : RdM w b lo s) (hG : GlobE w) (hT : TokIs t k tx v) (hs : s.st.length + s.out.length ≤ 98000) :
    Calls Tryz.prog 65 #[.pointer (some ⟨b, 0, none⟩), tokVal k a z tx v] w (AddRet b lo w (signM s t)) := by
  cases t with
  | lit x =>
    obtain ⟨rfl, rfl, rfl⟩ := hT
    exact sign_no b lo s _ a z _ _ (by decide) (by decide) w hM hG
  | word m =>
    obtain ⟨rfl, rfl, h1, h2, h3, c, r, e, hc⟩ := hT
    refine sign_no b lo s _ a z _ _ (fun h => ?_) (by rw [e]; exact signedF_letter hc 13 6 (by omega)) w hM hG
    rw [e] at h
    injection h with h _
    rw [h] at hc
    exact absurd hc (by decide)
  | sg c =>
    obtain ⟨rfl, rfl, rfl, hg⟩ := hT
    obtain ⟨f1, f2, f3, f4, f5, f6⟩ := sg_facts hg
    have e : signM s (.sg c) = if c = 21 then closeM s else if isTwo c = true then (match popSign c s.st s.out with | none => .inr 8 | some (S, o) => .inl ⟨0, s.call, opT c :: S, o⟩) else .inr 8 := rfl
    rw [e]
    by_cases h21 : c = 21
    · subst h21
      rw [if_pos rfl]
      exact sign_close b lo s a z w hM hs
    · rw [if_neg h21]
      by_cases h2 : isTwo c = true
      · rw [if_pos h2]
        exact sign_two b lo s c h2 a z w hM hG (by omega)
      · rw [if_neg h2] at f6 ⊢
        exact sign_no b lo s _ a z _ _ (fun h => h21 (f2.1 (by simpa using h))) (by simpa using f6) w hM hG
theorem shut_tok (b lo : Nat) (s : ST) (t : Tok) (k a z : Int) (tx : ByteArray) (v : V) (w : World) (hM : RdM w b lo s) (hT : TokIs t k tx v) (hs : s.st.length + s.out.length ≤ 98000) :
    Calls Tryz.prog 68 #[.pointer (some ⟨b, 0, none⟩), tokVal k a z tx v] w (AddRet b lo w (shutM s t)) := by
  have no : tx.data.toList ≠ [41] → shutM s t = .inr 8 → Calls Tryz.prog 68 #[.pointer (some ⟨b, 0, none⟩), tokVal k a z tx v] w (AddRet b lo w (shutM s t)) := fun h1 h2 => by
    rw [h2]
    exact (closeBr_no b lo s k a z tx v w hM h1).mono fun _ _ h => h
  cases t with
  | lit x =>
    obtain ⟨rfl, rfl, rfl⟩ := hT
    exact no (by decide) rfl
  | word m =>
    obtain ⟨rfl, rfl, h1, h2, h3, c, r, e, hc⟩ := hT
    refine no (fun h => ?_) rfl
    rw [e] at h
    injection h with h _
    rw [h] at hc
    exact absurd hc (by decide)
  | sg c =>
    obtain ⟨rfl, rfl, rfl, hg⟩ := hT
    obtain ⟨f1, f2, _⟩ := sg_facts hg
    have e : shutM s (.sg c) = if c = 21 then closeM s else .inr 8 := rfl
    by_cases h21 : c = 21
    · rw [e, if_pos h21]
      exact closeBr_yes b lo s _ a z _ _ w hM (by simpa using f2.2 h21) (by omega)
    · exact no (fun h => h21 (f2.1 (by simpa using h))) (by rw [e, if_neg h21])

/-! ### add -/
/-- What holds of a reader between its calls. -/
structure OkS (s : ST) : Prop where
  w : 0 ≤ s.wants ∧ s.wants ≤ 4
  c : s.wants = 2 → s.call = 2 ∨ s.call = 5
  n : s.wants = 3 → s.st ≠ []
set_option maxRecDepth 100000 in
set_option maxHeartbeats 4000000 in
theorem add_value (b lo : Nat) (s : ST) (t : Tok) (k a z : Int) (tx : ByteArray) (v : V) (w : World) (hM : RdM w b lo s) (hG : GlobE w) (hT : TokIs t k tx v) (hok : OkS s) (hw : s.wants = 0) (hs : s.st.length + s.out.length ≤ 98000) :
    Calls Tryz.prog 35 #[.pointer (some ⟨b, 0, none⟩), tokVal k a z tx v] w (AddRet b lo w (valueM s t)) := by
  have hk3 : (k == 3) = false := by
    rw [beq_eq_false_iff_ne]
    rintro rfl
    cases t with
    | lit x => exact absurd hT.1 (by decide)
    | sg c => exact absurd hT.1 (by decide)
    | word m =>
      have h := hT.2.2.2.2.1
      split at h <;> exact absurd h (by decide)
  unfold tokVal
  have HBx := Lib.hid (boxed hM #[.int .i64 k, .int .i64 a, .int .i64 z, .string tx, .int .i64 v.k, .int .i64 v.n, .string v.s] 63)
  have hGa : GlobE (w.alloc (.cells #[.int .i64 k, .int .i64 a, .int .i64 z, .string tx, .int .i64 v.k, .int .i64 v.n, .string v.s] 63)) := hG.below ((Below.refl _ _).alloc (Nat.le_refl _) _)
  have HC := Lib.hid (value_any b lo s t k a z tx v _ HBx.out.1 hGa hT (by omega))
  simp only [tokVal] at HC
  obtain ⟨⟨A1, c1, A2, c2, h1, h2, h3, h4⟩, h5, h6⟩ := hM
  have k0 := cell_alloc h1.c0 (.cells #[.int .i64 k, .int .i64 a, .int .i64 z, .string tx, .int .i64 v.k, .int .i64 v.n, .string v.s] 63)
  rw [hw] at k0
  clear hw
  clear h1 h2 h3 h4 hGa hT hok hG
  go_enter Tryz.func35, Tryz.ntmps35
  go_wp2_with (go_at_call 64; refine HC.out.mono ?_; rintro r w1 hr; obtain ⟨nn, rfl, hr⟩ := hr.num; have HR := Lib.hid hr; clear hr)
  go_ret
  exact HR.out.front HBx.out.2
set_option maxRecDepth 100000 in
set_option maxHeartbeats 4000000 in
theorem add_sign (b lo : Nat) (s : ST) (t : Tok) (k a z : Int) (tx : ByteArray) (v : V) (w : World) (hM : RdM w b lo s) (hG : GlobE w) (hT : TokIs t k tx v) (hok : OkS s) (hw : s.wants = 1) (hs : s.st.length + s.out.length ≤ 98000) :
    Calls Tryz.prog 35 #[.pointer (some ⟨b, 0, none⟩), tokVal k a z tx v] w (AddRet b lo w (signM s t)) := by
  have hk3 : (k == 3) = false := by
    rw [beq_eq_false_iff_ne]
    rintro rfl
    cases t with
    | lit x => exact absurd hT.1 (by decide)
    | sg c => exact absurd hT.1 (by decide)
    | word m =>
      have h := hT.2.2.2.2.1
      split at h <;> exact absurd h (by decide)
  unfold tokVal
  have HBx := Lib.hid (boxed hM #[.int .i64 k, .int .i64 a, .int .i64 z, .string tx, .int .i64 v.k, .int .i64 v.n, .string v.s] 63)
  have hGa : GlobE (w.alloc (.cells #[.int .i64 k, .int .i64 a, .int .i64 z, .string tx, .int .i64 v.k, .int .i64 v.n, .string v.s] 63)) := hG.below ((Below.refl _ _).alloc (Nat.le_refl _) _)
  have HC := Lib.hid (sign_tok b lo s t k a z tx v _ HBx.out.1 hGa hT hs)
  simp only [tokVal] at HC
  obtain ⟨⟨A1, c1, A2, c2, h1, h2, h3, h4⟩, h5, h6⟩ := hM
  have k0 := cell_alloc h1.c0 (.cells #[.int .i64 k, .int .i64 a, .int .i64 z, .string tx, .int .i64 v.k, .int .i64 v.n, .string v.s] 63)
  rw [hw] at k0
  clear hw
  clear h1 h2 h3 h4 hGa hT hok hG
  go_enter Tryz.func35, Tryz.ntmps35
  go_wp2_with (go_at_call 65; refine HC.out.mono ?_; rintro r w1 hr; obtain ⟨nn, rfl, hr⟩ := hr.num; have HR := Lib.hid hr; clear hr)
  go_ret
  exact HR.out.front HBx.out.2
set_option maxRecDepth 100000 in
set_option maxHeartbeats 4000000 in
theorem add_call (b lo : Nat) (s : ST) (t : Tok) (k a z : Int) (tx : ByteArray) (v : V) (w : World) (hM : RdM w b lo s) (hG : GlobE w) (hT : TokIs t k tx v) (hok : OkS s) (hw : s.wants = 2) (hs : s.st.length + s.out.length ≤ 98000) :
    Calls Tryz.prog 35 #[.pointer (some ⟨b, 0, none⟩), tokVal k a z tx v] w (AddRet b lo w (callM s t)) := by
  have hk3 : (k == 3) = false := by
    rw [beq_eq_false_iff_ne]
    rintro rfl
    cases t with
    | lit x => exact absurd hT.1 (by decide)
    | sg c => exact absurd hT.1 (by decide)
    | word m =>
      have h := hT.2.2.2.2.1
      split at h <;> exact absurd h (by decide)
  unfold tokVal
  have HBx := Lib.hid (boxed hM #[.int .i64 k, .int .i64 a, .int .i64 z, .string tx, .int .i64 v.k, .int .i64 v.n, .string v.s] 63)
  have hGa : GlobE (w.alloc (.cells #[.int .i64 k, .int .i64 a, .int .i64 z, .string tx, .int .i64 v.k, .int .i64 v.n, .string v.s] 63)) := hG.below ((Below.refl _ _).alloc (Nat.le_refl _) _)
  have HC := Lib.hid (callOpens_any b lo s t k a z tx v _ HBx.out.1 hT (hok.c hw) (by omega))
  simp only [tokVal] at HC
  obtain ⟨⟨A1, c1, A2, c2, h1, h2, h3, h4⟩, h5, h6⟩ := hM
  have k0 := cell_alloc h1.c0 (.cells #[.int .i64 k, .int .i64 a, .int .i64 z, .string tx, .int .i64 v.k, .int .i64 v.n, .string v.s] 63)
  rw [hw] at k0
  clear hw
  clear h1 h2 h3 h4 hGa hT hok hG
  go_enter Tryz.func35, Tryz.ntmps35
  go_wp2_with (go_at_call 66; refine HC.out.mono ?_; rintro r w1 hr; obtain ⟨nn, rfl, hr⟩ := hr.num; have HR := Lib.hid hr; clear hr)
  go_ret
  exact HR.out.front HBx.out.2
set_option maxRecDepth 100000 in
set_option maxHeartbeats 4000000 in
theorem add_name (b lo : Nat) (s : ST) (t : Tok) (k a z : Int) (tx : ByteArray) (v : V) (w : World) (hM : RdM w b lo s) (hG : GlobE w) (hT : TokIs t k tx v) (hok : OkS s) (hw : s.wants = 3) (hs : s.st.length + s.out.length ≤ 98000) :
    Calls Tryz.prog 35 #[.pointer (some ⟨b, 0, none⟩), tokVal k a z tx v] w (AddRet b lo w (nameM s t)) := by
  have hk3 : (k == 3) = false := by
    rw [beq_eq_false_iff_ne]
    rintro rfl
    cases t with
    | lit x => exact absurd hT.1 (by decide)
    | sg c => exact absurd hT.1 (by decide)
    | word m =>
      have h := hT.2.2.2.2.1
      split at h <;> exact absurd h (by decide)
  unfold tokVal
  have HBx := Lib.hid (boxed hM #[.int .i64 k, .int .i64 a, .int .i64 z, .string tx, .int .i64 v.k, .int .i64 v.n, .string v.s] 63)
  have hGa : GlobE (w.alloc (.cells #[.int .i64 k, .int .i64 a, .int .i64 z, .string tx, .int .i64 v.k, .int .i64 v.n, .string v.s] 63)) := hG.below ((Below.refl _ _).alloc (Nat.le_refl _) _)
  have HC := Lib.hid (name_tok b lo s t k a z tx v _ HBx.out.1 hT (hok.n hw) (by omega))
  simp only [tokVal] at HC
  obtain ⟨⟨A1, c1, A2, c2, h1, h2, h3, h4⟩, h5, h6⟩ := hM
  have k0 := cell_alloc h1.c0 (.cells #[.int .i64 k, .int .i64 a, .int .i64 z, .string tx, .int .i64 v.k, .int .i64 v.n, .string v.s] 63)
  rw [hw] at k0
  clear hw
  clear h1 h2 h3 h4 hGa hT hok hG
  go_enter Tryz.func35, Tryz.ntmps35
  go_wp2_with (go_at_call 67; refine HC.out.mono ?_; rintro r w1 hr; obtain ⟨nn, rfl, hr⟩ := hr.num; have HR := Lib.hid hr; clear hr)
  go_ret
  exact HR.out.front HBx.out.2
set_option maxRecDepth 100000 in
set_option maxHeartbeats 4000000 in
theorem add_shut (b lo : Nat) (s : ST) (t : Tok) (k a z : Int) (tx : ByteArray) (v : V) (w : World) (hM : RdM w b lo s) (hG : GlobE w) (hT : TokIs t k tx v) (hok : OkS s) (hw : s.wants = 4) (hs : s.st.length + s.out.length ≤ 98000) :
    Calls Tryz.prog 35 #[.pointer (some ⟨b, 0, none⟩), tokVal k a z tx v] w (AddRet b lo w (shutM s t)) := by
  have hk3 : (k == 3) = false := by
    rw [beq_eq_false_iff_ne]
    rintro rfl
    cases t with
    | lit x => exact absurd hT.1 (by decide)
    | sg c => exact absurd hT.1 (by decide)
    | word m =>
      have h := hT.2.2.2.2.1
      split at h <;> exact absurd h (by decide)
  unfold tokVal
  have HBx := Lib.hid (boxed hM #[.int .i64 k, .int .i64 a, .int .i64 z, .string tx, .int .i64 v.k, .int .i64 v.n, .string v.s] 63)
  have hGa : GlobE (w.alloc (.cells #[.int .i64 k, .int .i64 a, .int .i64 z, .string tx, .int .i64 v.k, .int .i64 v.n, .string v.s] 63)) := hG.below ((Below.refl _ _).alloc (Nat.le_refl _) _)
  have HC := Lib.hid (shut_tok b lo s t k a z tx v _ HBx.out.1 hT hs)
  simp only [tokVal] at HC
  obtain ⟨⟨A1, c1, A2, c2, h1, h2, h3, h4⟩, h5, h6⟩ := hM
  have k0 := cell_alloc h1.c0 (.cells #[.int .i64 k, .int .i64 a, .int .i64 z, .string tx, .int .i64 v.k, .int .i64 v.n, .string v.s] 63)
  rw [hw] at k0
  clear hw
  clear h1 h2 h3 h4 hGa hT hok hG
  go_enter Tryz.func35, Tryz.ntmps35
  go_wp2_with (go_at_call 68; refine HC.out.mono ?_; rintro r w1 hr; obtain ⟨nn, rfl, hr⟩ := hr.num; have HR := Lib.hid hr; clear hr)
  go_ret
  exact HR.out.front HBx.out.2
theorem add_any (b lo : Nat) (s : ST) (t : Tok) (k a z : Int) (tx : ByteArray) (v : V) (w : World) (hM : RdM w b lo s) (hG : GlobE w) (hT : TokIs t k tx v) (hok : OkS s) (hs : s.st.length + s.out.length ≤ 98000) :
    Calls Tryz.prog 35 #[.pointer (some ⟨b, 0, none⟩), tokVal k a z tx v] w (AddRet b lo w (addM s t)) := by
  unfold addM
  have := hok.w
  by_cases h0 : s.wants = 0
  · rw [if_pos h0]; exact add_value b lo s t k a z tx v w hM hG hT hok h0 hs
  rw [if_neg h0]
  by_cases h1 : s.wants = 1
  · rw [if_pos h1]; exact add_sign b lo s t k a z tx v w hM hG hT hok h1 hs
  rw [if_neg h1]
  by_cases h2 : s.wants = 2
  · rw [if_pos h2]; exact add_call b lo s t k a z tx v w hM hG hT hok h2 hs
  rw [if_neg h2]
  by_cases h3 : s.wants = 3
  · rw [if_pos h3]; exact add_name b lo s t k a z tx v w hM hG hT hok h3 hs
  rw [if_neg h3]
  exact add_shut b lo s t k a z tx v w hM hG hT hok (by omega) hs
set_option maxRecDepth 100000 in
set_option maxHeartbeats 4000000 in
theorem add_end (b lo : Nat) (s : ST) (a z : Int) (tx : ByteArray) (v : V) (w : World) (hM : RdM w b lo s) (hs : s.st.length + s.out.length ≤ 98000) :
    Calls Tryz.prog 35 #[.pointer (some ⟨b, 0, none⟩), tokVal 3 a z tx v] w fun r w' => Foot b lo w w' ∧ match endM s with
      | .inl o => r = .returned (.int .i64 0) ∧ ∃ s', s'.out = o ∧ RdM w' b lo s'
      | .inr e => r = .returned (.int .i64 e) := by
  have HBx := Lib.hid (boxed hM #[.int .i64 3, .int .i64 a, .int .i64 z, .string tx, .int .i64 v.k, .int .i64 v.n, .string v.s] 63)
  have HC := Lib.hid (dEnd_any b lo s _ HBx.out.1 (by omega))
  simp only [tokVal]
  clear hM
  cases he : endM s with
  | inl o =>
    rw [he] at HC
    simp only at HC ⊢
    clear he
    go_enter Tryz.func35, Tryz.ntmps35
    go_wp2_with (go_at_call 63; refine HC.out.mono ?_; rintro r w1 ⟨hf, rfl, s', hs', hm'⟩; have HF := Lib.hid hf; have HM := Lib.hid hm'; clear hf hm')
    go_ret
    exact ⟨HBx.out.2.trans HF.out, rfl, s', hs', HM.out⟩
  | inr e =>
    rw [he] at HC
    simp only at HC ⊢
    clear he
    go_enter Tryz.func35, Tryz.ntmps35
    go_wp2_with (go_at_call 63; refine HC.out.mono ?_; rintro r w1 ⟨hf, rfl⟩; have HF := Lib.hid hf; clear hf)
    go_ret
    exact ⟨HBx.out.2.trans HF.out, rfl⟩
end Go.Proofs.YtfpjepeikjfkpaaGreatDoor
