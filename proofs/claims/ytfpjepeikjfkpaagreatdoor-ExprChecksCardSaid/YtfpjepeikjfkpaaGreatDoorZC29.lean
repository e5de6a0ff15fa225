import Derived.Test.YtfpjepeikjfkpaaGreatDoorZC28
/-
  Package expr: what each method of a reader does with a token.
-/
namespace Go.Proofs.YtfpjepeikjfkpaaGreatDoor
open Go.RowKit

/-! ### a token's text -/
theorem sg_cases {c : Int} (h : isSg c) : c = 4 ∨ c = 6 ∨ c = 7 ∨ c = 8 ∨ c = 9 ∨ c = 10 ∨ c = 11 ∨ c = 12 ∨ c = 13 ∨ c = 14 ∨ c = 15 ∨ c = 16 ∨ c = 17 ∨ c = 18 ∨ c = 20 ∨ c = 21 := by
  unfold isSg at h
  omega
theorem sg_facts {c : Int} (h : isSg c) : (signT c = [40] ↔ c = 20) ∧ (signT c = [41] ↔ c = 21) ∧ signT c ≠ [104, 97, 115] ∧ signT c ≠ [108, 101, 110] ∧
    signedF 2 3 (signT c) = (if c = 10 then (3, true) else if c = 4 then (4, true) else (0, false)) ∧ signedF 13 6 (signT c) = (if isTwo c = true then (c, true) else (0, false)) := by
  rcases sg_cases h with rfl | rfl | rfl | rfl | rfl | rfl | rfl | rfl | rfl | rfl | rfl | rfl | rfl | rfl | rfl | rfl
  all_goals exact ⟨by decide, by decide, by decide, by decide, by decide, by decide⟩
theorem signL_head (j : Nat) (hj : j < 19) : ∀ c r, signL j = c :: r → letB c = false := fun c r h => by
  have g := (by decide : ∀ j : Fin 19, ((signL (j.val : Int)).head?.all fun c => !letB c) = true) ⟨j, hj⟩
  simp only at g
  rw [h] at g
  simpa using g
theorem AddRet.num {b lo : Nat} {w : World} {x : ST ⊕ Int} {r : Ending} {w' : World} (h : AddRet b lo w x r w') : ∃ n, r = .returned (.int .i64 n) ∧ AddRet b lo w x (.returned (.int .i64 n)) w' := by
  cases x with
  | inl s' => obtain ⟨rfl, h⟩ := h; exact ⟨0, rfl, rfl, h⟩
  | inr e => obtain ⟨rfl, h⟩ := h; exact ⟨e, rfl, rfl, h⟩
theorem signedF_none (l : List UInt8) : ∀ (n j : Nat), (∀ i : Nat, j ≤ i → i < j + n → signL i ≠ l) → signedF n j l = (0, false)
  | 0, _, _ => rfl
  | n + 1, j, h => by
    rw [signedF, if_neg (h j (Nat.le_refl _) (by omega))]
    exact signedF_none l n (j + 1) fun i h1 h2 => h i (by omega) (by omega)
theorem signedF_letter {c : UInt8} {r : List UInt8} (hc : letB c = true) (n j : Nat) (h : j + n ≤ 19) : signedF n j (c :: r) = (0, false) :=
  signedF_none _ n j fun i _ h2 e => by
    have := signL_head i (by omega) c r e
    rw [hc] at this
    cases this
theorem signedF_3_nil : signedF 2 3 [] = (0, false) := by decide
theorem signedF_6_nil : signedF 13 6 [] = (0, false) := by decide

/-! ### begin -/
theorem dBegin_all (b lo : Nat) (s : ST) (op wants : Int) (w : World) (hM : RdM w b lo s) (hop : isTwo op = false) (hs : s.st.length ≤ 99000) :
    Calls Tryz.prog 107 #[.pointer (some ⟨b, 0, none⟩), .int .i64 op, .int .i64 wants] w (AddRet b lo w (beginM s op wants)) := by
  unfold beginM
  by_cases hd : ndeep s.st = 12
  · rw [if_pos hd]
    refine (dBegin_deep b lo s op wants w hM hd).mono ?_
    rintro r w' ⟨rfl, rfl⟩
    exact ⟨rfl, Foot.refl _ _ _⟩
  · rw [if_neg hd]
    refine (dBegin_any b lo s op wants w hM hd hop (by omega)).mono ?_
    rintro r w' ⟨rfl, h1, h2⟩
    exact ⟨rfl, h1, h2⟩
/-- A box at the front of a call. -/
theorem boxed {w : World} {b lo : Nat} {s : ST} (hM : RdM w b lo s) (c : Array Value) (t : TypeId) : RdM (w.alloc (.cells c t)) b lo s ∧ Foot b lo w (w.alloc (.cells c t)) :=
  ⟨hM.below ((Below.refl w.heap.size w).alloc (Nat.le_refl _) _), (Foot.refl b lo w).alloc hM.lo2 _⟩

/-! ### callOpens -/
set_option maxRecDepth 100000 in
set_option maxHeartbeats 4000000 in
theorem callOpens_any (b lo : Nat) (s : ST) (t : Tok) (k a z : Int) (tx : ByteArray) (v : V) (w : World) (hM : RdM w b lo s) (hT : TokIs t k tx v) (hc : s.call = 2 ∨ s.call = 5) (hs : s.st.length ≤ 99000) :
    Calls Tryz.prog 66 #[.pointer (some ⟨b, 0, none⟩), tokVal k a z tx v] w (AddRet b lo w (callM s t)) := by
  have hopen : (tx.data.toList = [40] ∧ t = .sg 20) ∨ (tx.data.toList ≠ [40] ∧ callM s t = .inr 8) := by
    cases t with
    | lit x => obtain ⟨_, rfl, _⟩ := hT; exact .inr ⟨by decide, rfl⟩
    | word m =>
      obtain ⟨rfl, _, _, _, _, c, r, e, hl⟩ := hT
      refine .inr ⟨fun h => ?_, rfl⟩
      rw [e] at h
      injection h with h _
      rw [h] at hl
      exact absurd hl (by decide)
    | sg c =>
      obtain ⟨_, rfl, _, hg⟩ := hT
      obtain ⟨f1, _⟩ := sg_facts hg
      by_cases h : c = 20
      · subst h; exact .inl ⟨by decide, rfl⟩
      · refine .inr ⟨fun e => h (f1.1 e), ?_⟩
        show (if c = 20 then _ else _) = _
        rw [if_neg h]
  unfold tokVal
  rcases hopen with ⟨htx, rfl⟩ | ⟨htx, hcm⟩
  · obtain rfl : tx = ⟨#[40]⟩ := by apply ba_list; rw [htx]
    have hcm : callM s (.sg 20) = if s.call = 2 then beginM s 2 3 else beginM s s.call 0 := rfl
    rw [hcm]
    have HBx := Lib.hid (fun c t => boxed hM c t)
    have HBe := Lib.hid (fun op wants wx h hop => dBegin_all b lo s op wants wx h hop hs)
    obtain ⟨⟨A1, c1, A2, c2, h1, h2, h3, h4⟩, h5, h6⟩ := hM
    have k1 := cell_alloc h1.c1 (.cells #[.int .i64 k, .int .i64 a, .int .i64 z, .string ⟨#[40]⟩, .int .i64 v.k, .int .i64 v.n, .string v.s] 63)
    clear h1 h2 h3 h4 hT htx hcm
    rcases hc with hc | hc
    · rw [if_pos hc]
      rw [hc] at k1
      clear hc
      go_enter Tryz.func66, Tryz.ntmps66
      go_wp2_with (go_at_call 107; refine (HBe.out 2 3 _ (HBx.out _ _).1 (by decide)).mono ?_; rintro r w1 hr; obtain ⟨nn, rfl, hr⟩ := hr.num; have HR := Lib.hid hr; clear hr)
      go_ret
      exact HR.out.front (HBx.out _ _).2
    · rw [if_neg (by omega), hc]
      rw [hc] at k1
      clear hc
      go_enter Tryz.func66, Tryz.ntmps66
      go_wp2_with (go_at_call 107; refine (HBe.out 5 0 _ (HBx.out _ _).1 (by decide)).mono ?_; rintro r w1 hr; obtain ⟨nn, rfl, hr⟩ := hr.num; have HR := Lib.hid hr; clear hr)
      go_ret
      exact HR.out.front (HBx.out _ _).2
  · rw [hcm]
    have f1 : (tx.toList == [40]) = false := by rw [beq_eq_false_iff_ne]; exact fun h => htx (ba_text.2 h)
    have b1 : ¬ tx.toList = [40] := fun h => htx (ba_text.2 h)
    have hf := (boxed hM #[.int .i64 k, .int .i64 a, .int .i64 z, .string tx, .int .i64 v.k, .int .i64 v.n, .string v.s] 63).2
    have b2 : (tx.toList != [40]) = true := by rw [bne, f1]; rfl
    clear htx hcm hM hT
    go_enter Tryz.func66, Tryz.ntmps66
    go_wp2
    go_ret
    exact ⟨rfl, hf⟩

/-! ### name -/
theorem flatT_name (l : List TM) (x : TM) (m : ByteArray) : (flatT (l ++ [x])).set (l.length * 5 + 4) (.string m) = flatT (l ++ [⟨x.op, x.v, m⟩]) := by
  rw [flatT_append, flatT_append, flatT_one, flatT_one, List.set_append_right _ _ (by rw [flatT_len]; omega), flatT_len]
  have e : l.length * 5 + 4 - l.length * 5 = 4 := by omega
  rw [e]
  rfl
theorem OwnT.name {w : World} {lo g n c : Nat} {l : List TM} {x : TM} (h : OwnT w lo (.slice (some ⟨g, 0, none⟩) n c) (l ++ [x])) (m : ByteArray) :
    OwnT (w.setCell ⟨g, l.length * 5 + 4, none⟩ (.string m)) lo (.slice (some ⟨g, 0, none⟩) n c) (l ++ [⟨x.op, x.v, m⟩]) := by
  have hl1 : (l ++ [x]).length = l.length + 1 := by simp
  have hl2 : (l ++ [(⟨x.op, x.v, m⟩ : TM)]).length = l.length + 1 := by simp
  unfold OwnT at h ⊢
  rw [hl1] at h
  rw [hl2]
  rcases h.2 with ⟨hv, h0⟩ | ⟨g', cap, cur, hv, hb, hg, hcap, hm, hcs, htk⟩
  · omega
  · injection hv with e1 e2 e3
    injection e1 with e1
    injection e1 with e1
    subst e1
    refine ⟨by rw [flatT_len]; simp, .inr ⟨g, cap, cur.setIfInBounds (l.length * 5 + 4) (.string m), by rw [e2, e3], hb, heap_setCell_same w g _ cur _ _ hg, hcap, hm, by simpa using hcs, ?_⟩⟩
    rw [← flatT_name, ← htk]
    simp only [Array.toList_setIfInBounds]
    rw [List.take_set]
theorem OwnT.away {w : World} {lo : Nat} {v : Value} {l : List TM} (h : OwnT w lo v l) {p : Addr} (hp : v.ownBlock ≠ some p.block) (u : Value) : OwnT (w.setCell p u) lo v l :=
  h.keep (fun g hg _ => heap_setCell_other w p g u (by intro e; rw [e] at hg; exact hp hg)) (Nat.le_refl _)
set_option maxRecDepth 100000 in
set_option maxHeartbeats 4000000 in
theorem name_tok (b lo : Nat) (s : ST) (t : Tok) (k a z : Int) (tx : ByteArray) (v : V) (w : World) (hM : RdM w b lo s) (hT : TokIs t k tx v) (hst : s.st ≠ []) (hs : s.st.length ≤ 99000) :
    Calls Tryz.prog 67 #[.pointer (some ⟨b, 0, none⟩), tokVal k a z tx v] w (AddRet b lo w (nameM s t)) := by
  have hcase : (k = 2 ∧ ∃ m, t = .word m ∧ tx = m ∧ reservedB m = false) ∨ (k ≠ 2 ∧ nameM s t = .inr 8) := by
    cases t with
    | lit x => obtain ⟨rfl, _⟩ := hT; exact .inr ⟨by decide, rfl⟩
    | sg c => obtain ⟨rfl, _⟩ := hT; exact .inr ⟨by decide, rfl⟩
    | word m =>
      obtain ⟨rfl, _, h1, h2, h3, _⟩ := hT
      by_cases h : tx = hasW ∨ tx = lenW
      · rw [if_pos h] at h3
        subst h3
        refine .inr ⟨by decide, ?_⟩
        show (if reservedB tx = true then _ else _) = _
        rw [if_pos (by rcases h with rfl | rfl; exact reserved_has; exact reserved_len)]
      · rw [if_neg h] at h3
        subst h3
        simp only [not_or] at h
        exact .inl ⟨rfl, tx, rfl, rfl, reserved_not h1 h2 h.1 h.2⟩
  rcases hcase with ⟨rfl, m, rfl, rfl, hr⟩ | ⟨hk, hnm⟩
  · obtain ⟨wants, call, S0, o⟩ := s
    simp only at hst hs
    cases S0 with
    | nil => exact absurd rfl hst
    | cons x S =>
    have hnm : nameM ⟨wants, call, x :: S, o⟩ (.word tx) = .inl ⟨4, call, ⟨x.op, x.v, tx⟩ :: S, o⟩ := by
      show (if reservedB tx = true then _ else _) = _
      rw [if_neg (by rw [hr]; simp)]
    rw [hnm]
    clear hnm hr hst hT
    have hbx := boxed hM #[.int .i64 2, .int .i64 a, .int .i64 z, .string tx, .int .i64 v.k, .int .i64 v.n, .string v.s] 63
    obtain ⟨wa, hwa⟩ : ∃ y, w.alloc (.cells #[.int .i64 2, .int .i64 a, .int .i64 z, .string tx, .int .i64 v.k, .int .i64 v.n, .string v.s] 63) = y := ⟨_, rfl⟩
    rw [hwa] at hbx
    have htc : wa.cell? ⟨w.heap.size, 3, none⟩ = some (.string tx) := by rw [← hwa]; exact cellAt (heap_alloc_new w _) rfl
    obtain ⟨hM1, hF1⟩ := hbx
    obtain ⟨⟨A1, c1, A2, c2, h1, h2, h3, h4⟩, h5, h6⟩ := hM1
    simp only at h1 h2 h3 h4
    rw [List.length_cons] at h1 h2 h4 hs
    rcases h2.2 with ⟨hv, h0⟩ | ⟨g, cap, cur, hv, hb, hg, hcap, hm, hcs, htk⟩
    · simp at h0
    injection hv with e1 e2 e3
    subst e1 e3
    have hgl : g < wa.heap.size := (Array.getElem?_eq_some_iff.1 hg).1
    have k2 := h1.c2
    have k0 := h1.c0
    have f0 := h1.fz 0
    have hfz : wa.frozen? ⟨g, S.length * 5 + 4, none⟩ = false := by simp [World.frozen?, hg]
    obtain ⟨b1, o1, ee, t0, t1, t2, t3, t4⟩ := (h2.reads).at_ (k := S.length) (by simp)
    injection ee with ee
    injection ee with ee1 ee2
    subst ee1 ee2
    rw [Nat.zero_add] at t4
    have hrev : (x :: S).reverse = S.reverse ++ [x] := List.reverse_cons
    rw [hrev] at h2
    have hown := h2.name tx
    rw [List.length_reverse] at hown
    have q0 : ((S.length + 1 : Nat) : Int) - 1 = (S.length : Int) := by omega
    have q1 : decide (S.length < S.length + 1) = true := by simp
    -- what is left
    obtain ⟨wf, hwf⟩ : ∃ y, (wa.setCell ⟨g, S.length * 5 + 4, none⟩ (.string tx)).setCell ⟨b, 0, none⟩ (.int .i64 4) = y := ⟨_, rfl⟩
    have hgb : b ≠ g := by omega
    have r1 : RdE wf b 4 call (.slice (some ⟨g, 0, none⟩) (S.length + 1) c1) (ndeep (⟨x.op, x.v, tx⟩ :: S)) (.slice A2 o.length c2) := by
      rw [← hwf]
      exact (h1.keep (heap_setCell_other wa ⟨g, S.length * 5 + 4, none⟩ b _ (by show b ≠ g; exact hgb))).set0 4
    have r2 : OwnT wf lo (.slice (some ⟨g, 0, none⟩) (S.length + 1) c1) (⟨x.op, x.v, tx⟩ :: S).reverse := by
      rw [← hwf, List.reverse_cons]
      exact hown.set h5
    have r3 : OwnT wf lo (.slice A2 o.length c2) o := by
      rw [← hwf]
      exact (h3.away (p := ⟨g, S.length * 5 + 4, none⟩) (h4 g rfl) _).set h5
    have r5 : lo ≤ wf.heap.size := by rw [← hwf]; simpa [World.setCell] using h6
    have HM2 := Lib.hid (show RdM wf b lo ⟨4, call, ⟨x.op, x.v, tx⟩ :: S, o⟩ from ⟨⟨some ⟨g, 0, none⟩, c1, A2, c2, r1, r2, r3, h4⟩, h5, r5⟩)
    have HF2 := Lib.hid (show Foot b lo w wf from by rw [← hwf]; exact (hF1.setCell (.inr hb) _).setCell (.inl rfl) _)
    have HWF := Lib.hid hwf
    have HWA := Lib.hid hwa
    clear h1 h2 h3 h4 hown r1 r2 r3 hwf hwa hg hcs htk hM hF1 hcap t0 t1 t2 t3 e2 hrev
    unfold tokVal
    go_enter Tryz.func67, Tryz.ntmps67
    go_upto_region 3 with fail
    rw [HWA.out]
    go_region
    all_goals
      go_wp2
      rw [HWF.out]
      go_ret
      exact ⟨rfl, HM2.out.below (Below.refl _ _).drew, HF2.out.drew⟩
  · rw [hnm]
    have hf := (boxed hM #[.int .i64 k, .int .i64 a, .int .i64 z, .string tx, .int .i64 v.k, .int .i64 v.n, .string v.s] 63).2
    have f1 : (k == 2) = false := by rw [beq_eq_false_iff_ne]; exact hk
    have f2 : (k != 2) = true := by rw [bne, f1]; rfl
    unfold tokVal
    clear hnm hM hT hk
    go_enter Tryz.func67, Tryz.ntmps67
    go_wp2
    go_ret
    exact ⟨rfl, hf⟩

/-! ### value -/
set_option maxRecDepth 100000 in
set_option maxHeartbeats 4000000 in
theorem value_lit (b lo : Nat) (s : ST) (a z : Int) (v : V) (w : World) (hM : RdM w b lo s) (hG : GlobE w) (hs : s.st.length + s.out.length ≤ 99000) :
    Calls Tryz.prog 64 #[.pointer (some ⟨b, 0, none⟩), .agg #[.int .i64 1, .int .i64 a, .int .i64 z, .string ⟨#[]⟩, .int .i64 v.k, .int .i64 v.n, .string v.s]] w (AddRet b lo w (.inl (wholeM s.call s.st (s.out ++ [⟨0, v, mtS⟩])))) := by
  have hbx := boxed hM #[.int .i64 1, .int .i64 a, .int .i64 z, .string ⟨#[]⟩, .int .i64 v.k, .int .i64 v.n, .string v.s] 63
  obtain ⟨wa, hwa⟩ : ∃ y, w.alloc (.cells #[.int .i64 1, .int .i64 a, .int .i64 z, .string ⟨#[]⟩, .int .i64 v.k, .int .i64 v.n, .string v.s] 63) = y := ⟨_, rfl⟩
  rw [hwa] at hbx
  have hwsz : wa.heap.size = w.heap.size + 1 := by rw [← hwa]; simp
  have hGa : GlobE wa := by rw [← hwa]; exact hG.below ((Below.refl _ _).alloc (Nat.le_refl _) _)
  have hbk : wa.heap[w.heap.size]? = some (.cells #[.int .i64 1, .int .i64 a, .int .i64 z, .string ⟨#[]⟩, .int .i64 v.k, .int .i64 v.n, .string v.s] 63 (0, 0)) := by rw [← hwa]; exact heap_alloc_new w _
  have y0 := cellAt (o := 0) hbk rfl
  have y1 := cellAt (o := 1) hbk rfl
  have y2 := cellAt (o := 2) hbk rfl
  have y3 := cellAt (o := 3) hbk rfl
  have y4 := cellAt (o := 4) hbk rfl
  have y5 := cellAt (o := 5) hbk rfl
  have y6 := cellAt (o := 6) hbk rfl
  clear hbk
  have HA := Lib.hid hbx
  have HS := Lib.hid (signed_any ⟨#[]⟩ 3 4 (by omega) (by omega) wa hGa)
  rw [show signedF (4 + 1 - 3) 3 (⟨#[]⟩ : ByteArray).data.toList = (0, false) from signedF_3_nil] at HS
  have HN := Lib.hid (show ∀ j u, (cellsT ⟨0, v, mtS⟩)[j]? = some u → (wa.alloc (.cells #[.int .i64 0, .int .i64 v.k, .int .i64 v.n, .string v.s, .string ⟨#[]⟩] 44)).cell? ((⟨w.heap.size + 1, 0, none⟩ : Addr).add j) = some u from by rw [← hwsz]; exact newsT wa _ ⟨0, v, mtS⟩)
  have HW := Lib.hid (whole_one b lo s ⟨0, v, mtS⟩ ⟨w.heap.size + 1, 0, none⟩ 1 (wa.alloc (.cells #[.int .i64 0, .int .i64 v.k, .int .i64 v.n, .string v.s, .string ⟨#[]⟩] 44)) (hbx.1.below ((Below.refl _ _).alloc (Nat.le_refl _) _)) (by omega) HN.out)
  have HWA := Lib.hid hwa
  clear hM hbx hGa hwa
  go_enter Tryz.func64, Tryz.ntmps64
  go_upto_region 1 with fail
  rw [HWA.out]
  go_wp2_with (first | (go_at_call 105; refine HS.out.mono ?_; rintro r w1 ⟨rfl, rfl⟩) | (go_at_call 106; refine HW.out.mono ?_; rintro r w2 ⟨rfl, hm2, hf2⟩; have HM2 := Lib.hid hm2; have HF2 := Lib.hid hf2; clear hm2 hf2))
  go_ret
  exact ⟨rfl, HM2.out, (HA.out.2.trans ((Foot.refl _ _ _).alloc HA.out.1.lo2 _)).trans HF2.out⟩
set_option maxRecDepth 100000 in
set_option maxHeartbeats 4000000 in
theorem value_var (b lo : Nat) (s : ST) (a z : Int) (m : ByteArray) (hm : ∃ c r, m.data.toList = c :: r ∧ letB c = true) (w : World) (hM : RdM w b lo s) (hG : GlobE w) (hs : s.st.length + s.out.length ≤ 99000) :
    Calls Tryz.prog 64 #[.pointer (some ⟨b, 0, none⟩), .agg #[.int .i64 2, .int .i64 a, .int .i64 z, .string m, .int .i64 0, .int .i64 0, .string ⟨#[]⟩]] w (AddRet b lo w (.inl (wholeM s.call s.st (s.out ++ [⟨1, V0, m⟩])))) := by
  have hbx := boxed hM #[.int .i64 2, .int .i64 a, .int .i64 z, .string m, .int .i64 0, .int .i64 0, .string ⟨#[]⟩] 63
  obtain ⟨wa, hwa⟩ : ∃ y, w.alloc (.cells #[.int .i64 2, .int .i64 a, .int .i64 z, .string m, .int .i64 0, .int .i64 0, .string ⟨#[]⟩] 63) = y := ⟨_, rfl⟩
  rw [hwa] at hbx
  have hwsz : wa.heap.size = w.heap.size + 1 := by rw [← hwa]; simp
  have hGa : GlobE wa := by rw [← hwa]; exact hG.below ((Below.refl _ _).alloc (Nat.le_refl _) _)
  have hbk : wa.heap[w.heap.size]? = some (.cells #[.int .i64 2, .int .i64 a, .int .i64 z, .string m, .int .i64 0, .int .i64 0, .string ⟨#[]⟩] 63 (0, 0)) := by rw [← hwa]; exact heap_alloc_new w _
  have y0 := cellAt (o := 0) hbk rfl
  have y1 := cellAt (o := 1) hbk rfl
  have y2 := cellAt (o := 2) hbk rfl
  have y3 := cellAt (o := 3) hbk rfl
  have y4 := cellAt (o := 4) hbk rfl
  have y5 := cellAt (o := 5) hbk rfl
  have y6 := cellAt (o := 6) hbk rfl
  clear hbk
  have HA := Lib.hid hbx
  have HS := Lib.hid (signed_any m 3 4 (by omega) (by omega) wa hGa)
  rw [show signedF (4 + 1 - 3) 3 (m : ByteArray).data.toList = (0, false) from (by obtain ⟨c, r, e, hc⟩ := hm; rw [e]; exact signedF_letter hc 2 3 (by omega))] at HS
  have HN := Lib.hid (show ∀ j u, (cellsT ⟨1, V0, m⟩)[j]? = some u → (wa.alloc (.cells #[.int .i64 1, .int .i64 0, .int .i64 0, .string ⟨#[]⟩, .string m] 44)).cell? ((⟨w.heap.size + 1, 0, none⟩ : Addr).add j) = some u from by rw [← hwsz]; exact newsT wa _ ⟨1, V0, m⟩)
  have HW := Lib.hid (whole_one b lo s ⟨1, V0, m⟩ ⟨w.heap.size + 1, 0, none⟩ 1 (wa.alloc (.cells #[.int .i64 1, .int .i64 0, .int .i64 0, .string ⟨#[]⟩, .string m] 44)) (hbx.1.below ((Below.refl _ _).alloc (Nat.le_refl _) _)) (by omega) HN.out)
  have HWA := Lib.hid hwa
  clear hM hbx hGa hwa
  go_enter Tryz.func64, Tryz.ntmps64
  go_upto_region 1 with fail
  rw [HWA.out]
  go_wp2_with (first | (go_at_call 105; refine HS.out.mono ?_; rintro r w1 ⟨rfl, rfl⟩) | (go_at_call 106; refine HW.out.mono ?_; rintro r w2 ⟨rfl, hm2, hf2⟩; have HM2 := Lib.hid hm2; have HF2 := Lib.hid hf2; clear hm2 hf2))
  go_ret
  exact ⟨rfl, HM2.out, (HA.out.2.trans ((Foot.refl _ _ _).alloc HA.out.1.lo2 _)).trans HF2.out⟩
theorem RdM.wants {w : World} {b lo : Nat} {s : ST} (h : RdM w b lo s) (x : Int) : RdM (w.setCell ⟨b, 0, none⟩ (.int .i64 x)) b lo ⟨x, s.call, s.st, s.out⟩ := by
  obtain ⟨⟨A1, c1, A2, c2, h1, h2, h3, h4⟩, h5, h6⟩ := h
  exact ⟨⟨A1, c1, A2, c2, h1.set0 x, h2.set h5, h3.set h5, h4⟩, h5, by simpa [World.setCell] using h6⟩
theorem RdM.calls {w : World} {b lo : Nat} {s : ST} (h : RdM w b lo s) (x : Int) : RdM (w.setCell ⟨b, 1, none⟩ (.int .i64 x)) b lo ⟨s.wants, x, s.st, s.out⟩ := by
  obtain ⟨⟨A1, c1, A2, c2, h1, h2, h3, h4⟩, h5, h6⟩ := h
  exact ⟨⟨A1, c1, A2, c2, h1.set1 x, h2.set h5, h3.set h5, h4⟩, h5, by simpa [World.setCell] using h6⟩
set_option maxRecDepth 100000 in
set_option maxHeartbeats 4000000 in
theorem value_has (b lo : Nat) (s : ST) (a z : Int) (w : World) (hM : RdM w b lo s) (hG : GlobE w) :
    Calls Tryz.prog 64 #[.pointer (some ⟨b, 0, none⟩), .agg #[.int .i64 0, .int .i64 a, .int .i64 z, .string ⟨#[104, 97, 115]⟩, .int .i64 0, .int .i64 0, .string ⟨#[]⟩]] w (AddRet b lo w (.inl ⟨2, 2, s.st, s.out⟩)) := by
  have hbx := boxed hM #[.int .i64 0, .int .i64 a, .int .i64 z, .string ⟨#[104, 97, 115]⟩, .int .i64 0, .int .i64 0, .string ⟨#[]⟩] 63
  obtain ⟨wa, hwa⟩ : ∃ y, w.alloc (.cells #[.int .i64 0, .int .i64 a, .int .i64 z, .string ⟨#[104, 97, 115]⟩, .int .i64 0, .int .i64 0, .string ⟨#[]⟩] 63) = y := ⟨_, rfl⟩
  rw [hwa] at hbx
  have hwsz : wa.heap.size = w.heap.size + 1 := by rw [← hwa]; simp
  have hGa : GlobE wa := by rw [← hwa]; exact hG.below ((Below.refl _ _).alloc (Nat.le_refl _) _)
  have hbk : wa.heap[w.heap.size]? = some (.cells #[.int .i64 0, .int .i64 a, .int .i64 z, .string ⟨#[104, 97, 115]⟩, .int .i64 0, .int .i64 0, .string ⟨#[]⟩] 63 (0, 0)) := by rw [← hwa]; exact heap_alloc_new w _
  have y0 := cellAt (o := 0) hbk rfl
  have y1 := cellAt (o := 1) hbk rfl
  have y2 := cellAt (o := 2) hbk rfl
  have y3 := cellAt (o := 3) hbk rfl
  have y4 := cellAt (o := 4) hbk rfl
  have y5 := cellAt (o := 5) hbk rfl
  have y6 := cellAt (o := 6) hbk rfl
  clear hbk
  have HA := Lib.hid hbx
  have HS := Lib.hid (signed_any ⟨#[104, 97, 115]⟩ 3 4 (by omega) (by omega) wa hGa)
  rw [show signedF (4 + 1 - 3) 3 (⟨#[104, 97, 115]⟩ : ByteArray).data.toList = (0, false) from by decide] at HS
  have HWA := Lib.hid hwa
  obtain ⟨⟨A1, c1, A2, c2, h1, h2, h3, h4⟩, h5, h6⟩ := hbx.1
  have k0 := h1.c0
  have k1 := h1.c1
  have f0 := h1.fz 0
  have f1 := h1.fz 1
  clear hM hbx hGa hwa h1 h2 h3 h4
  go_enter Tryz.func64, Tryz.ntmps64
  go_upto_region 1 with fail
  rw [HWA.out]
  go_wp2_with (go_at_call 105; refine HS.out.mono ?_; rintro r w1 ⟨rfl, rfl⟩)
  go_ret
  exact ⟨rfl, (HA.out.1.wants 2).calls 2, (HA.out.2.setCell (.inl rfl) _).setCell (.inl rfl) _⟩
set_option maxRecDepth 100000 in
set_option maxHeartbeats 4000000 in
theorem value_len (b lo : Nat) (s : ST) (a z : Int) (w : World) (hM : RdM w b lo s) (hG : GlobE w) :
    Calls Tryz.prog 64 #[.pointer (some ⟨b, 0, none⟩), .agg #[.int .i64 0, .int .i64 a, .int .i64 z, .string ⟨#[108, 101, 110]⟩, .int .i64 0, .int .i64 0, .string ⟨#[]⟩]] w (AddRet b lo w (.inl ⟨2, 5, s.st, s.out⟩)) := by
  have hbx := boxed hM #[.int .i64 0, .int .i64 a, .int .i64 z, .string ⟨#[108, 101, 110]⟩, .int .i64 0, .int .i64 0, .string ⟨#[]⟩] 63
  obtain ⟨wa, hwa⟩ : ∃ y, w.alloc (.cells #[.int .i64 0, .int .i64 a, .int .i64 z, .string ⟨#[108, 101, 110]⟩, .int .i64 0, .int .i64 0, .string ⟨#[]⟩] 63) = y := ⟨_, rfl⟩
  rw [hwa] at hbx
  have hwsz : wa.heap.size = w.heap.size + 1 := by rw [← hwa]; simp
  have hGa : GlobE wa := by rw [← hwa]; exact hG.below ((Below.refl _ _).alloc (Nat.le_refl _) _)
  have hbk : wa.heap[w.heap.size]? = some (.cells #[.int .i64 0, .int .i64 a, .int .i64 z, .string ⟨#[108, 101, 110]⟩, .int .i64 0, .int .i64 0, .string ⟨#[]⟩] 63 (0, 0)) := by rw [← hwa]; exact heap_alloc_new w _
  have y0 := cellAt (o := 0) hbk rfl
  have y1 := cellAt (o := 1) hbk rfl
  have y2 := cellAt (o := 2) hbk rfl
  have y3 := cellAt (o := 3) hbk rfl
  have y4 := cellAt (o := 4) hbk rfl
  have y5 := cellAt (o := 5) hbk rfl
  have y6 := cellAt (o := 6) hbk rfl
  clear hbk
  have HA := Lib.hid hbx
  have HS := Lib.hid (signed_any ⟨#[108, 101, 110]⟩ 3 4 (by omega) (by omega) wa hGa)
  rw [show signedF (4 + 1 - 3) 3 (⟨#[108, 101, 110]⟩ : ByteArray).data.toList = (0, false) from by decide] at HS
  have HWA := Lib.hid hwa
  obtain ⟨⟨A1, c1, A2, c2, h1, h2, h3, h4⟩, h5, h6⟩ := hbx.1
  have k0 := h1.c0
  have k1 := h1.c1
  have f0 := h1.fz 0
  have f1 := h1.fz 1
  clear hM hbx hGa hwa h1 h2 h3 h4
  go_enter Tryz.func64, Tryz.ntmps64
  go_upto_region 1 with fail
  rw [HWA.out]
  go_wp2_with (go_at_call 105; refine HS.out.mono ?_; rintro r w1 ⟨rfl, rfl⟩)
  go_ret
  exact ⟨rfl, (HA.out.1.wants 2).calls 5, (HA.out.2.setCell (.inl rfl) _).setCell (.inl rfl) _⟩
set_option maxRecDepth 100000 in
set_option maxHeartbeats 4000000 in
theorem value_open (b lo : Nat) (s : ST) (a z : Int) (w : World) (hM : RdM w b lo s) (hG : GlobE w) (hs : s.st.length ≤ 99000) :
    Calls Tryz.prog 64 #[.pointer (some ⟨b, 0, none⟩), .agg #[.int .i64 0, .int .i64 a, .int .i64 z, .string ⟨#[40]⟩, .int .i64 0, .int .i64 0, .string ⟨#[]⟩]] w (AddRet b lo w (beginM s (-1) 0)) := by
  have hbx := boxed hM #[.int .i64 0, .int .i64 a, .int .i64 z, .string ⟨#[40]⟩, .int .i64 0, .int .i64 0, .string ⟨#[]⟩] 63
  obtain ⟨wa, hwa⟩ : ∃ y, w.alloc (.cells #[.int .i64 0, .int .i64 a, .int .i64 z, .string ⟨#[40]⟩, .int .i64 0, .int .i64 0, .string ⟨#[]⟩] 63) = y := ⟨_, rfl⟩
  rw [hwa] at hbx
  have hwsz : wa.heap.size = w.heap.size + 1 := by rw [← hwa]; simp
  have hGa : GlobE wa := by rw [← hwa]; exact hG.below ((Below.refl _ _).alloc (Nat.le_refl _) _)
  have hbk : wa.heap[w.heap.size]? = some (.cells #[.int .i64 0, .int .i64 a, .int .i64 z, .string ⟨#[40]⟩, .int .i64 0, .int .i64 0, .string ⟨#[]⟩] 63 (0, 0)) := by rw [← hwa]; exact heap_alloc_new w _
  have y0 := cellAt (o := 0) hbk rfl
  have y1 := cellAt (o := 1) hbk rfl
  have y2 := cellAt (o := 2) hbk rfl
  have y3 := cellAt (o := 3) hbk rfl
  have y4 := cellAt (o := 4) hbk rfl
  have y5 := cellAt (o := 5) hbk rfl
  have y6 := cellAt (o := 6) hbk rfl
  clear hbk
  have HA := Lib.hid hbx
  have HS := Lib.hid (signed_any ⟨#[40]⟩ 3 4 (by omega) (by omega) wa hGa)
  rw [show signedF (4 + 1 - 3) 3 (⟨#[40]⟩ : ByteArray).data.toList = (0, false) from by decide] at HS
  have HWA := Lib.hid hwa
  have HBe := Lib.hid (dBegin_all b lo s (-1) 0 wa hbx.1 (by decide) hs)
  clear hM hbx hGa hwa
  go_enter Tryz.func64, Tryz.ntmps64
  go_upto_region 1 with fail
  rw [HWA.out]
  go_wp2_with (first | (go_at_call 105; refine HS.out.mono ?_; rintro r w1 ⟨rfl, rfl⟩) | (go_at_call 107; refine HBe.out.mono ?_; rintro r w1 hr; obtain ⟨nn, rfl, hr⟩ := hr.num; have HR := Lib.hid hr; clear hr))
  go_ret
  exact HR.out.front HA.out.2
set_option maxRecDepth 100000 in
set_option maxHeartbeats 4000000 in
theorem value_neg (b lo : Nat) (s : ST) (a z : Int) (w : World) (hM : RdM w b lo s) (hG : GlobE w) (hs : s.st.length ≤ 99000) :
    Calls Tryz.prog 64 #[.pointer (some ⟨b, 0, none⟩), .agg #[.int .i64 0, .int .i64 a, .int .i64 z, .string ⟨#[45]⟩, .int .i64 0, .int .i64 0, .string ⟨#[]⟩]] w (AddRet b lo w (beginM s 3 0)) := by
  have hbx := boxed hM #[.int .i64 0, .int .i64 a, .int .i64 z, .string ⟨#[45]⟩, .int .i64 0, .int .i64 0, .string ⟨#[]⟩] 63
  obtain ⟨wa, hwa⟩ : ∃ y, w.alloc (.cells #[.int .i64 0, .int .i64 a, .int .i64 z, .string ⟨#[45]⟩, .int .i64 0, .int .i64 0, .string ⟨#[]⟩] 63) = y := ⟨_, rfl⟩
  rw [hwa] at hbx
  have hwsz : wa.heap.size = w.heap.size + 1 := by rw [← hwa]; simp
  have hGa : GlobE wa := by rw [← hwa]; exact hG.below ((Below.refl _ _).alloc (Nat.le_refl _) _)
  have hbk : wa.heap[w.heap.size]? = some (.cells #[.int .i64 0, .int .i64 a, .int .i64 z, .string ⟨#[45]⟩, .int .i64 0, .int .i64 0, .string ⟨#[]⟩] 63 (0, 0)) := by rw [← hwa]; exact heap_alloc_new w _
  have y0 := cellAt (o := 0) hbk rfl
  have y1 := cellAt (o := 1) hbk rfl
  have y2 := cellAt (o := 2) hbk rfl
  have y3 := cellAt (o := 3) hbk rfl
  have y4 := cellAt (o := 4) hbk rfl
  have y5 := cellAt (o := 5) hbk rfl
  have y6 := cellAt (o := 6) hbk rfl
  clear hbk
  have HA := Lib.hid hbx
  have HS := Lib.hid (signed_any ⟨#[45]⟩ 3 4 (by omega) (by omega) wa hGa)
  rw [show signedF (4 + 1 - 3) 3 (⟨#[45]⟩ : ByteArray).data.toList = (3, true) from by decide] at HS
  have HWA := Lib.hid hwa
  have HBe := Lib.hid (dBegin_all b lo s 3 0 wa hbx.1 (by decide) hs)
  clear hM hbx hGa hwa
  go_enter Tryz.func64, Tryz.ntmps64
  go_upto_region 1 with fail
  rw [HWA.out]
  go_wp2_with (first | (go_at_call 105; refine HS.out.mono ?_; rintro r w1 ⟨rfl, rfl⟩) | (go_at_call 107; refine HBe.out.mono ?_; rintro r w1 hr; obtain ⟨nn, rfl, hr⟩ := hr.num; have HR := Lib.hid hr; clear hr))
  go_ret
  exact HR.out.front HA.out.2
set_option maxRecDepth 100000 in
set_option maxHeartbeats 4000000 in
theorem value_not (b lo : Nat) (s : ST) (a z : Int) (w : World) (hM : RdM w b lo s) (hG : GlobE w) (hs : s.st.length ≤ 99000) :
    Calls Tryz.prog 64 #[.pointer (some ⟨b, 0, none⟩), .agg #[.int .i64 0, .int .i64 a, .int .i64 z, .string ⟨#[33]⟩, .int .i64 0, .int .i64 0, .string ⟨#[]⟩]] w (AddRet b lo w (beginM s 4 0)) := by
  have hbx := boxed hM #[.int .i64 0, .int .i64 a, .int .i64 z, .string ⟨#[33]⟩, .int .i64 0, .int .i64 0, .string ⟨#[]⟩] 63
  obtain ⟨wa, hwa⟩ : ∃ y, w.alloc (.cells #[.int .i64 0, .int .i64 a, .int .i64 z, .string ⟨#[33]⟩, .int .i64 0, .int .i64 0, .string ⟨#[]⟩] 63) = y := ⟨_, rfl⟩
  rw [hwa] at hbx
  have hwsz : wa.heap.size = w.heap.size + 1 := by rw [← hwa]; simp
  have hGa : GlobE wa := by rw [← hwa]; exact hG.below ((Below.refl _ _).alloc (Nat.le_refl _) _)
  have hbk : wa.heap[w.heap.size]? = some (.cells #[.int .i64 0, .int .i64 a, .int .i64 z, .string ⟨#[33]⟩, .int .i64 0, .int .i64 0, .string ⟨#[]⟩] 63 (0, 0)) := by rw [← hwa]; exact heap_alloc_new w _
  have y0 := cellAt (o := 0) hbk rfl
  have y1 := cellAt (o := 1) hbk rfl
  have y2 := cellAt (o := 2) hbk rfl
  have y3 := cellAt (o := 3) hbk rfl
  have y4 := cellAt (o := 4) hbk rfl
  have y5 := cellAt (o := 5) hbk rfl
  have y6 := cellAt (o := 6) hbk rfl
  clear hbk
  have HA := Lib.hid hbx
  have HS := Lib.hid (signed_any ⟨#[33]⟩ 3 4 (by omega) (by omega) wa hGa)
  rw [show signedF (4 + 1 - 3) 3 (⟨#[33]⟩ : ByteArray).data.toList = (4, true) from by decide] at HS
  have HWA := Lib.hid hwa
  have HBe := Lib.hid (dBegin_all b lo s 4 0 wa hbx.1 (by decide) hs)
  clear hM hbx hGa hwa
  go_enter Tryz.func64, Tryz.ntmps64
  go_upto_region 1 with fail
  rw [HWA.out]
  go_wp2_with (first | (go_at_call 105; refine HS.out.mono ?_; rintro r w1 ⟨rfl, rfl⟩) | (go_at_call 107; refine HBe.out.mono ?_; rintro r w1 hr; obtain ⟨nn, rfl, hr⟩ := hr.num; have HR := Lib.hid hr; clear hr))
  go_ret
  exact HR.out.front HA.out.2
set_option maxRecDepth 100000 in
set_option maxHeartbeats 4000000 in
theorem value_no (b lo : Nat) (s : ST) (a z : Int) (tx : ByteArray) (ht : tx.data.toList ≠ [104, 97, 115] ∧ tx.data.toList ≠ [108, 101, 110] ∧ tx.data.toList ≠ [40]) (hsg : signedF 2 3 tx.data.toList = (0, false)) (w : World) (hM : RdM w b lo s) (hG : GlobE w) :
    Calls Tryz.prog 64 #[.pointer (some ⟨b, 0, none⟩), .agg #[.int .i64 0, .int .i64 a, .int .i64 z, .string tx, .int .i64 0, .int .i64 0, .string ⟨#[]⟩]] w (AddRet b lo w (.inr 8)) := by
  have hbx := boxed hM #[.int .i64 0, .int .i64 a, .int .i64 z, .string tx, .int .i64 0, .int .i64 0, .string ⟨#[]⟩] 63
  obtain ⟨wa, hwa⟩ : ∃ y, w.alloc (.cells #[.int .i64 0, .int .i64 a, .int .i64 z, .string tx, .int .i64 0, .int .i64 0, .string ⟨#[]⟩] 63) = y := ⟨_, rfl⟩
  rw [hwa] at hbx
  have hwsz : wa.heap.size = w.heap.size + 1 := by rw [← hwa]; simp
  have hGa : GlobE wa := by rw [← hwa]; exact hG.below ((Below.refl _ _).alloc (Nat.le_refl _) _)
  have hbk : wa.heap[w.heap.size]? = some (.cells #[.int .i64 0, .int .i64 a, .int .i64 z, .string tx, .int .i64 0, .int .i64 0, .string ⟨#[]⟩] 63 (0, 0)) := by rw [← hwa]; exact heap_alloc_new w _
  have y0 := cellAt (o := 0) hbk rfl
  have y1 := cellAt (o := 1) hbk rfl
  have y2 := cellAt (o := 2) hbk rfl
  have y3 := cellAt (o := 3) hbk rfl
  have y4 := cellAt (o := 4) hbk rfl
  have y5 := cellAt (o := 5) hbk rfl
  have y6 := cellAt (o := 6) hbk rfl
  clear hbk
  have HA := Lib.hid hbx
  have HS := Lib.hid (signed_any tx 3 4 (by omega) (by omega) wa hGa)
  rw [show signedF (4 + 1 - 3) 3 tx.data.toList = (0, false) from hsg] at HS
  have HWA := Lib.hid hwa
  obtain ⟨t1, t2, t3⟩ := ht
  have b1 : ¬ tx.toList = [104, 97, 115] := fun h => t1 (ba_text.2 h)
  have b2 : ¬ tx.toList = [108, 101, 110] := fun h => t2 (ba_text.2 h)
  have b3 : ¬ tx.toList = [40] := fun h => t3 (ba_text.2 h)
  have g1 : (tx.toList == [104, 97, 115]) = false := by rw [beq_eq_false_iff_ne]; exact b1
  have g2 : (tx.toList == [108, 101, 110]) = false := by rw [beq_eq_false_iff_ne]; exact b2
  have g3 : (tx.toList == [40]) = false := by rw [beq_eq_false_iff_ne]; exact b3
  clear hM hbx hGa hwa t1 t2 t3 hsg
  go_enter Tryz.func64, Tryz.ntmps64
  go_upto_region 1 with fail
  rw [HWA.out]
  go_wp2_with (go_at_call 105; refine HS.out.mono ?_; rintro r w1 ⟨rfl, rfl⟩)
  go_ret
  exact ⟨rfl, HA.out.2⟩

theorem value_any (b lo : Nat) (s : ST) (t : Tok) (k a z : Int) (tx : ByteArray) (v : V) (w : World) (hM : RdM w b lo s) (hG : GlobE w) (hT : TokIs t k tx v) (hs : s.st.length + s.out.length ≤ 99000) :
    Calls Tryz.prog 64 #[.pointer (some ⟨b, 0, none⟩), tokVal k a z tx v] w (AddRet b lo w (valueM s t)) := by
  cases t with
  | lit x =>
    obtain ⟨rfl, rfl, rfl⟩ := hT
    exact value_lit b lo s a z v w hM hG hs
  | word m =>
    obtain ⟨rfl, rfl, h1, h2, h3, h4⟩ := hT
    by_cases hh : tx = hasW
    · rw [if_pos (.inl hh)] at h3
      subst h3 hh
      have e : valueM s (.word hasW) = .inl ⟨2, 2, s.st, s.out⟩ := by simp [valueM]
      rw [e]
      exact value_has b lo s a z w hM hG
    · by_cases hl : tx = lenW
      · rw [if_pos (.inr hl)] at h3
        subst h3 hl
        have e : valueM s (.word lenW) = .inl ⟨2, 5, s.st, s.out⟩ := by simp [valueM, Ne.symm has_len]
        rw [e]
        exact value_len b lo s a z w hM hG
      · rw [if_neg (by rintro (h | h); exact hh h; exact hl h)] at h3
        subst h3
        have e : valueM s (.word tx) = .inl (wholeM s.call s.st (s.out ++ [⟨1, V0, tx⟩])) := by
          show (if tx = hasW then _ else if tx = lenW then _ else if reservedB tx = true then _ else _) = _
          rw [if_neg hh, if_neg hl, if_neg (by rw [reserved_not h1 h2 hh hl]; simp)]
        rw [e]
        exact value_var b lo s a z tx h4 w hM hG hs
  | sg c =>
    obtain ⟨rfl, rfl, rfl, hg⟩ := hT
    obtain ⟨f1, f2, f3, f4, f5, f6⟩ := sg_facts hg
    have e : valueM s (.sg c) = if c = 20 then beginM s (-1) 0 else if c = 10 then beginM s 3 0 else if c = 4 then beginM s 4 0 else .inr 8 := rfl
    rw [e]
    by_cases h20 : c = 20
    · subst h20
      rw [if_pos rfl]
      exact value_open b lo s a z w hM hG (by omega)
    · rw [if_neg h20]
      by_cases h10 : c = 10
      · subst h10
        rw [if_pos rfl]
        exact value_neg b lo s a z w hM hG (by omega)
      · rw [if_neg h10] at f5 ⊢
        by_cases h4 : c = 4
        · subst h4
          rw [if_pos rfl]
          exact value_not b lo s a z w hM hG (by omega)
        · rw [if_neg h4] at f5 ⊢
          exact value_no b lo s a z _ ⟨by simpa using f3, by simpa using f4, fun h => h20 (f1.1 (by simpa using h))⟩ (by simpa using f5) w hM hG
end Go.Proofs.YtfpjepeikjfkpaaGreatDoor
