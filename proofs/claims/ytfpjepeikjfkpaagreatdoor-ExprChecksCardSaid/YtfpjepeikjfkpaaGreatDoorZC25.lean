import Derived.Test.YtfpjepeikjfkpaaGreatDoorZC24
/-
  Package value: Parse of any text.
-/
namespace Go.Proofs.YtfpjepeikjfkpaaGreatDoor
open Go.RowKit

set_option maxHeartbeats 1000000 in
theorem word_tail (s p : ByteArray) (c : UInt8) (t : List UInt8) (hs : s.data.toList = p.data.toList ++ c :: t) (hn : s.size ≤ 4611686018427387904) (hw : isWord c = true) (w : World) :
    Calls Tryz.prog 103 #[.string s, .string p] w fun e w' => e = .returned (.bool false) ∧ w' = w := by
  have H := Lib.hid (cut_yes s p (c :: t) hs hn w)
  clear hs
  have e0 : (⟨(c :: t).toArray⟩ : ByteArray).toList.isEmpty = false := by rw [ByteArray.toList_eq]; rfl
  have e1 : ¬ (⟨(c :: t).toArray⟩ : ByteArray).toList = [] := by rw [ByteArray.toList_eq]; simp
  have hz : 0 < (⟨(c :: t).toArray⟩ : ByteArray).size := by simp [ByteArray.size]
  have hc0 : (⟨(c :: t).toArray⟩ : ByteArray)[0] = c := rfl
  have HD := Lib.hid (digit_any c)
  have key : isNum c = true ∨ (isNum c = false ∧ c = 45) ∨ (isNum c = false ∧ c ≠ 45 ∧ 97 ≤ c.toNat ∧ c.toNat ≤ 122) := by
    unfold isWord at hw
    cases h : isNum c
    · right
      by_cases h2 : c = 45
      · exact .inl ⟨rfl, h2⟩
      · right
        rw [h] at hw
        simp [h2] at hw
        exact ⟨rfl, h2, hw.1, hw.2⟩
    · exact .inl rfl
  generalize (⟨(c :: t).toArray⟩ : ByteArray) = z at *
  clear hw
  rcases key with h | ⟨h, h45⟩ | ⟨h, h45, hl, hr⟩
  · rw [h] at HD
    clear h
    subst hc0
    go_enter Tryz.func103, Tryz.ntmps103
    go_wp2_with (first | (go_at_call 129; refine H.out.mono ?_; rintro r w' ⟨rfl, rfl⟩) | (go_at_call 99; refine (HD.out _).mono ?_; rintro r w' ⟨rfl, rfl⟩))
    go_ret
    exact ⟨rfl, rfl⟩
  · rw [h] at HD
    have b1 : ((c.toNat : Int) == 45) = true := by rw [h45]; rfl
    have b2 : ((c.toNat : Int) != 45) = false := by rw [h45]; rfl
    clear h h45
    subst hc0
    go_enter Tryz.func103, Tryz.ntmps103
    go_wp2_with (first | (go_at_call 129; refine H.out.mono ?_; rintro r w' ⟨rfl, rfl⟩) | (go_at_call 99; refine (HD.out _).mono ?_; rintro r w' ⟨rfl, rfl⟩))
    go_ret
    exact ⟨rfl, rfl⟩
  · rw [h] at HD
    have b1 : ((c.toNat : Int) == 45) = false := v8_ne (n := 45) (by omega) h45
    have b2 : ((c.toNat : Int) != 45) = true := by rw [bne, b1]; rfl
    have b3 : decide ((c.toNat : Int) < 97) = false := by rw [decide_eq_false_iff_not]; omega
    have b4 : decide ((122 : Int) < (c.toNat : Int)) = false := by rw [decide_eq_false_iff_not]; omega
    clear h h45 hl hr
    subst hc0
    go_enter Tryz.func103, Tryz.ntmps103
    go_wp2_with (first | (go_at_call 129; refine H.out.mono ?_; rintro r w' ⟨rfl, rfl⟩) | (go_at_call 99; refine (HD.out _).mono ?_; rintro r w' ⟨rfl, rfl⟩))
    go_ret
    exact ⟨rfl, rfl⟩
/-- Whether a word stands at the front. -/
def wordAt (p l : List UInt8) : Bool := isPre p l && moreOk 2 (l.drop p.length)
theorem word_any (s p : ByteArray) (hn : s.size ≤ 4611686018427387904) (w : World) :
    Calls Tryz.prog 103 #[.string s, .string p] w fun e w' => e = .returned (.bool (wordAt p.data.toList s.data.toList)) ∧ w' = w := by
  unfold wordAt
  have es : p.size = p.data.toList.length := rfl
  by_cases h : s.data.toList.take p.data.toList.length = p.data.toList
  · have e : isPre p.data.toList s.data.toList = true := by unfold isPre; rw [decide_eq_true_iff]; exact h
    rw [e, Bool.true_and]
    have hcut : s.data.toList = p.data.toList ++ s.data.toList.drop p.data.toList.length := by
      conv => lhs; rw [← List.take_append_drop p.data.toList.length s.data.toList, h]
    cases hm : moreOk 2 (s.data.toList.drop p.data.toList.length) with
    | true => exact word_yes s p _ hcut hn hm w
    | false =>
      cases hd : s.data.toList.drop p.data.toList.length with
      | nil => rw [hd] at hm; cases hm
      | cons c t =>
        rw [hd] at hm hcut
        exact word_tail s p c t hcut hn (by simpa [moreOk] using hm) w
  · have e : isPre p.data.toList s.data.toList = false := by unfold isPre; rw [decide_eq_false_iff_not]; exact h
    rw [e, Bool.false_and]
    exact word_no s p (by rw [es]; exact h) hn w
theorem wordV_at (l : List UInt8) : wordV l = if wordAt trueL l = true then (⟨2, 1, ⟨#[]⟩⟩, 4, 0) else if wordAt falseL l = true then (⟨2, 0, ⟨#[]⟩⟩, 5, 0) else (V0, 0, 8) := by
  unfold wordV wordAt
  simp only [Bool.and_eq_true]
  rfl

/-- What TrimPrefix leaves of a text: a hyphen is gone. -/
theorem trim_any (s : ByteArray) (hn : s.size ≤ 4611686018427387904) (w : World) :
    Calls Tryz.prog 98 #[.string s, .string ⟨#[45]⟩] w fun e w' => e = .returned (.string ⟨(s.data.toList.drop (frontN s.data.toList)).toArray⟩) ∧ w' = w := by
  by_cases h : s.data.toList.head? = some 45
  · have h1 : frontN s.data.toList = 1 := if_pos h
    cases hl : s.data.toList with
    | nil => rw [hl] at h; cases h
    | cons c r =>
      rw [hl] at h h1
      injection h with h
      subst h
      rw [h1]
      exact trim_yes s ⟨#[45]⟩ r (by rw [hl]; rfl) hn w
  · have h0 : frontN s.data.toList = 0 := if_neg h
    rw [h0, List.drop_zero]
    refine trim_no s ⟨#[45]⟩ ?_ hn w
    intro e
    have e1 : (⟨#[45]⟩ : ByteArray).size = 1 := rfl
    rw [e1] at e
    cases hl : s.data.toList with
    | nil => rw [hl] at e; simp at e
    | cons c r =>
      rw [hl] at e h
      simp at e
      exact h (by rw [e]; rfl)

set_option maxRecDepth 100000 in
set_option maxHeartbeats 4000000 in
theorem parse_all (s : ByteArray) (hlen : s.size ≤ 1000000) (w : World) (hR : RangeW w) :
    Calls Tryz.prog 58 #[.string s] w fun e w' => e = retTake (parseV s.data.toList) ∧ Below w.heap.size w w' := by
  have hn : s.size ≤ 4611686018427387904 := by omega
  obtain ⟨l, hl⟩ : ∃ l, l = s.data.toList := ⟨_, rfl⟩
  have hsz : s.size = l.length := by rw [hl]; rfl
  obtain ⟨d, hd⟩ : ∃ d : ByteArray, d = ⟨(l.drop (frontN l)).toArray⟩ := ⟨_, rfl⟩
  have hdl : d.data.toList = l.drop (frontN l) := by rw [hd]
  have hfl := frontN_le l
  have hds : d.size + frontN l = s.size := by
    have e1 : d.size = (l.drop (frontN l)).length := by rw [← hdl]; rfl
    rw [e1, List.length_drop, hsz]
    omega
  have htrim := fun w => trim_any s hn w
  rw [← hl, ← hd] at htrim
  have HTrim := Lib.hid htrim
  have HX0 := Lib.hid (Boxed.new w 0 0 ⟨#[]⟩)
  have hb0 := box_below w #[.int .i64 0, .int .i64 0, .string ⟨#[]⟩] 42
  have HB0 := Lib.hid hb0
  have HR0 := Lib.hid (hR.below hb0)
  clear hR htrim hb0
  rw [← hl]
  by_cases hf : numFront l = true
  · have hpv : parseV l = numV l := if_pos hf
    rw [hpv]
    obtain ⟨hd0, hdn⟩ : ∃ h : 0 < d.size, isNum (d[0]'h) = true := by
      unfold numFront at hf
      rw [← hdl] at hf
      cases hq : d.data.toList with
      | nil => rw [hq] at hf; cases hf
      | cons c r =>
        rw [hq] at hf
        have h0 : 0 < d.size := by
          have e1 : d.size = (c :: r).length := by rw [← hq]; rfl
          rw [e1]; simp
        refine ⟨h0, ?_⟩
        rw [at_list d _ hq 0 h0]
        exact hf
    have hdl2 : d.toList ≠ [] := by
      rw [ByteArray.toList_eq]
      intro e
      have e1 : d.size = d.data.toList.length := rfl
      rw [e] at e1
      rw [e1] at hd0
      cases hd0
    have hne : ¬ d.toList = [] := hdl2
    have hne2 : d.toList.isEmpty = false := by rw [List.isEmpty_eq_false_iff]; exact hdl2
    have hne3 : (!d.toList.isEmpty) = true := by rw [hne2]; rfl
    have hd0I : (0 : Int) < (d.size : Int) := by omega
    have HDig := Lib.hid (digit_any (d[0]'hd0))
    rw [hdn] at HDig
    have hfirst : (s.size : Int) - (d.size : Int) = (frontN l : Int) := by omega
    have hnum := fun w (hR : RangeW w) => vNumber_all s hlen (frontN l) (by rw [hl]) (by rw [← hl]; exact hf) w hR
    rw [← hfirst, ← hl] at hnum
    obtain ⟨x, hx⟩ : ∃ x, x = numV l := ⟨_, rfl⟩
    rw [← hx] at hnum ⊢
    obtain ⟨⟨xk, xn, xs⟩, xz, xe⟩ := x
    simp only [retTake, V.val] at hnum
    have HNum := Lib.hid hnum
    have hwr : IntKind.i64.wrap ((s.size : Int) - (d.size : Int)) = (s.size : Int) - (d.size : Int) := IntWalk.i64_in _ (by omega)
    clear hnum hx hl hsz hd hdl hfl hds hf hpv hdn hdl2 hfirst
    go_enter Tryz.func58, Tryz.ntmps58
    go_wp2_with (first
      | (go_at_call 98; refine (HTrim.out _).mono ?_; rintro r w' ⟨rfl, rfl⟩)
      | (go_at_call 99; refine (HDig.out _).mono ?_; rintro r w' ⟨rfl, rfl⟩))
    refine (HNum.out _ HR0.out).mono ?_
    rintro r w2 ⟨rfl, hb2⟩
    have HX2 := Lib.hid (HX0.out.below hb2)
    have HB2 := Lib.hid (HB0.out.trans (hb2.mono HB0.out.size))
    clear hb2
    obtain ⟨r0, r1, r2⟩ := HX2.out.cells
    have f0 := HX2.out.frozen 0
    have f1 := HX2.out.frozen 1
    have f2 := HX2.out.frozen 2
    have hlx2 := HX2.out.lt
    go_wp2_with fail
    obtain ⟨t0, t1, t2⟩ := (HX2.out.set3' xk xn xs).cells
    have HP := Lib.hid (Below.set3' HB2.out (Nat.le_refl _) (.int .i64 xk) (.int .i64 xn) (.string xs))
    exact bodyPost_ret (v := .tuple #[.agg #[.int .i64 xk, .int .i64 xn, .string xs], .int .i64 (xz : Int), .int .i64 xe]) (by simp [results, Tryz.results58, go_sem, t0, t1, t2]) rfl ⟨rfl, HP.out⟩
  · -- no digit behind the hyphen
    have hdig : (d.toList.isEmpty = true ∧ d.toList = []) ∨ (d.toList.isEmpty = false ∧ ¬ d.toList = [] ∧ ∃ h : 0 < d.size, isNum (d[0]'h) = false) := by
      rw [ByteArray.toList_eq]
      cases hq : d.data.toList with
      | nil => exact .inl ⟨rfl, rfl⟩
      | cons c r =>
        right
        have h0 : 0 < d.size := by
          have e1 : d.size = (c :: r).length := by rw [← hq]; rfl
          rw [e1]; simp
        refine ⟨rfl, by simp, h0, ?_⟩
        rw [at_list d _ hq 0 h0]
        unfold numFront at hf
        rw [← hdl, hq] at hf
        simpa using hf
    have hpv : parseV l = if l.head? = some 34 then textGo (l.drop 1) [] 1 else wordV l := if_neg hf
    rw [hpv]
    by_cases h34 : l.head? = some 34
    · rw [if_pos h34]
      cases hl2 : l with
      | nil => rw [hl2] at h34; cases h34
      | cons c t =>
        rw [hl2] at h34
        injection h34 with h34
        subst h34
        have hsl : s.data.toList = 34 :: t := by rw [← hl, hl2]
        have HP := Lib.hid (fun w => has_yes s ⟨#[34]⟩ t (by rw [hsl]; rfl) hn w)
        have htx := fun w => vText_all s hlen t hsl w
        show Calls _ _ _ _ fun e w' => e = retTake (textGo t [] 1) ∧ Below w.heap.size w w'
        obtain ⟨x, hx⟩ : ∃ x, x = textGo t [] 1 := ⟨_, rfl⟩
        rw [← hx] at htx ⊢
        obtain ⟨⟨xk, xn, xs⟩, xz, xe⟩ := x
        simp only [retTake, V.val] at htx
        have HTx := Lib.hid htx
        clear htx hx hl hsz hd hdl hfl hds hf hpv hsl hl2
        rcases hdig with ⟨g1, g2⟩ | ⟨g1, g2, h0, g3⟩
        all_goals
          first
            | (have h0I : (0 : Int) < (d.size : Int) := by omega
               have g4 : (!d.toList.isEmpty) = true := by rw [g1]; rfl
               have HDig := Lib.hid (digit_any (d[0]'h0))
               rw [g3] at HDig
               clear g3
               go_enter Tryz.func58, Tryz.ntmps58
               go_wp2_with (first
                 | (go_at_call 98; refine (HTrim.out _).mono ?_; rintro r w' ⟨rfl, rfl⟩)
                 | (go_at_call 99; refine (HDig.out _).mono ?_; rintro r w' ⟨rfl, rfl⟩)
                 | (go_at_call 101; refine (HP.out _).mono ?_; rintro r w' ⟨rfl, rfl⟩)))
            | (have g4 : (!d.toList.isEmpty) = false := by rw [g1]; rfl
               go_enter Tryz.func58, Tryz.ntmps58
               go_wp2_with (first
                 | (go_at_call 98; refine (HTrim.out _).mono ?_; rintro r w' ⟨rfl, rfl⟩)
                 | (go_at_call 101; refine (HP.out _).mono ?_; rintro r w' ⟨rfl, rfl⟩)))
          refine (HTx.out _).mono ?_
          rintro r w2 ⟨rfl, hb2⟩
          have HX2 := Lib.hid (HX0.out.below hb2)
          have HB2 := Lib.hid (HB0.out.trans (hb2.mono HB0.out.size))
          clear hb2
          obtain ⟨r0, r1, r2⟩ := HX2.out.cells
          have f0 := HX2.out.frozen 0
          have f1 := HX2.out.frozen 1
          have f2 := HX2.out.frozen 2
          have hlx2 := HX2.out.lt
          go_wp2_with fail
          obtain ⟨t0, t1, t2⟩ := (HX2.out.set3' xk xn xs).cells
          have HPo := Lib.hid (Below.set3' HB2.out (Nat.le_refl _) (.int .i64 xk) (.int .i64 xn) (.string xs))
          exact bodyPost_ret (v := .tuple #[.agg #[.int .i64 xk, .int .i64 xn, .string xs], .int .i64 (xz : Int), .int .i64 xe]) (by simp [results, Tryz.results58, go_sem, t0, t1, t2]) rfl ⟨rfl, HPo.out⟩
    · rw [if_neg h34, wordV_at]
      have HP := Lib.hid (fun w => has_no s ⟨#[34]⟩ (by
        rw [← hl]
        intro e
        have e1 : (⟨#[34]⟩ : ByteArray).size = 1 := rfl
        rw [e1] at e
        cases hl2 : l with
        | nil => rw [hl2] at e; simp at e
        | cons c r =>
          rw [hl2] at e h34
          simp at e
          exact h34 (by rw [e]; rfl)) hn w)
      have w1 := fun w => word_any s ⟨#[116, 114, 117, 101]⟩ hn w
      have w2 := fun w => word_any s ⟨#[102, 97, 108, 115, 101]⟩ hn w
      rw [← hl, show (⟨#[116, 114, 117, 101]⟩ : ByteArray).data.toList = trueL from rfl] at w1
      rw [← hl, show (⟨#[102, 97, 108, 115, 101]⟩ : ByteArray).data.toList = falseL from rfl] at w2
      generalize wordAt trueL l = a at *
      generalize wordAt falseL l = b at *
      have HW1 := Lib.hid w1
      have HW2 := Lib.hid w2
      clear w1 w2 hl hsz hd hdl hfl hds hf hpv h34
      rcases hdig with ⟨g1, g2⟩ | ⟨g1, g2, h0, g3⟩
      · have g4 : (!d.toList.isEmpty) = false := by rw [g1]; rfl
        have HDig : Hid True := Lib.hid trivial
        cases a
        · cases b
          · go_enter Tryz.func58, Tryz.ntmps58
            go_wp2_with (first
              | (go_at_call 98; refine (HTrim.out _).mono ?_; rintro r w' ⟨rfl, rfl⟩)
              | (go_at_call 99; refine (HDig.out _).mono ?_; rintro r w' ⟨rfl, rfl⟩)
              | (go_at_call 101; refine (HP.out _).mono ?_; rintro r w' ⟨rfl, rfl⟩)
              | (go_at_call 103; with_reducible refine (HW1.out _).mono ?_; rintro r w' ⟨rfl, rfl⟩)
              | (go_at_call 103; with_reducible refine (HW2.out _).mono ?_; rintro r w' ⟨rfl, rfl⟩))
            exact bodyPost_ret (v := .tuple #[.agg #[.int .i64 0, .int .i64 0, .string ⟨#[]⟩], .int .i64 0, .int .i64 8]) (by simp [results, Tryz.results58, go_sem]) rfl ⟨rfl, HB0.out⟩
          · have HBo := Lib.hid (fun w => vBool_any false w)
            go_enter Tryz.func58, Tryz.ntmps58
            go_wp2_with (first
              | (go_at_call 98; refine (HTrim.out _).mono ?_; rintro r w' ⟨rfl, rfl⟩)
              | (go_at_call 99; refine (HDig.out _).mono ?_; rintro r w' ⟨rfl, rfl⟩)
              | (go_at_call 101; refine (HP.out _).mono ?_; rintro r w' ⟨rfl, rfl⟩)
              | (go_at_call 103; with_reducible refine (HW1.out _).mono ?_; rintro r w' ⟨rfl, rfl⟩)
              | (go_at_call 103; with_reducible refine (HW2.out _).mono ?_; rintro r w' ⟨rfl, rfl⟩))
            refine (HBo.out _).mono ?_
            rintro r w2 ⟨rfl, hb2⟩
            have HX2 := Lib.hid (HX0.out.below hb2)
            have HB2 := Lib.hid (HB0.out.trans (hb2.mono HB0.out.size))
            clear hb2
            obtain ⟨r0, r1, r2⟩ := HX2.out.cells
            have f0 := HX2.out.frozen 0
            have f1 := HX2.out.frozen 1
            have f2 := HX2.out.frozen 2
            have hlx2 := HX2.out.lt
            go_wp2_with fail
            obtain ⟨t0, t1, t2⟩ := (HX2.out.set3' 2 0 ⟨#[]⟩).cells
            have HPo := Lib.hid (Below.set3' HB2.out (Nat.le_refl _) (.int .i64 2) (.int .i64 0) (.string ⟨#[]⟩))
            exact bodyPost_ret (v := .tuple #[.agg #[.int .i64 2, .int .i64 0, .string ⟨#[]⟩], .int .i64 5, .int .i64 0]) (by simp [results, Tryz.results58, go_sem, t0, t1, t2]) rfl ⟨rfl, HPo.out⟩
        · have HBo := Lib.hid (fun w => vBool_any true w)
          go_enter Tryz.func58, Tryz.ntmps58
          go_wp2_with (first
            | (go_at_call 98; refine (HTrim.out _).mono ?_; rintro r w' ⟨rfl, rfl⟩)
            | (go_at_call 99; refine (HDig.out _).mono ?_; rintro r w' ⟨rfl, rfl⟩)
            | (go_at_call 101; refine (HP.out _).mono ?_; rintro r w' ⟨rfl, rfl⟩)
            | (go_at_call 103; with_reducible refine (HW1.out _).mono ?_; rintro r w' ⟨rfl, rfl⟩)
            | (go_at_call 103; with_reducible refine (HW2.out _).mono ?_; rintro r w' ⟨rfl, rfl⟩))
          refine (HBo.out _).mono ?_
          rintro r w2 ⟨rfl, hb2⟩
          have HX2 := Lib.hid (HX0.out.below hb2)
          have HB2 := Lib.hid (HB0.out.trans (hb2.mono HB0.out.size))
          clear hb2
          obtain ⟨r0, r1, r2⟩ := HX2.out.cells
          have f0 := HX2.out.frozen 0
          have f1 := HX2.out.frozen 1
          have f2 := HX2.out.frozen 2
          have hlx2 := HX2.out.lt
          go_wp2_with fail
          obtain ⟨t0, t1, t2⟩ := (HX2.out.set3' 2 1 ⟨#[]⟩).cells
          have HPo := Lib.hid (Below.set3' HB2.out (Nat.le_refl _) (.int .i64 2) (.int .i64 1) (.string ⟨#[]⟩))
          exact bodyPost_ret (v := .tuple #[.agg #[.int .i64 2, .int .i64 1, .string ⟨#[]⟩], .int .i64 4, .int .i64 0]) (by simp [results, Tryz.results58, go_sem, t0, t1, t2]) rfl ⟨rfl, HPo.out⟩
      · have h0I : (0 : Int) < (d.size : Int) := by omega
        have g4 : (!d.toList.isEmpty) = true := by rw [g1]; rfl
        have HDig := Lib.hid (digit_any (d[0]'h0))
        rw [g3] at HDig
        clear g3
        cases a
        · cases b
          · go_enter Tryz.func58, Tryz.ntmps58
            go_wp2_with (first
              | (go_at_call 98; refine (HTrim.out _).mono ?_; rintro r w' ⟨rfl, rfl⟩)
              | (go_at_call 99; refine (HDig.out _).mono ?_; rintro r w' ⟨rfl, rfl⟩)
              | (go_at_call 101; refine (HP.out _).mono ?_; rintro r w' ⟨rfl, rfl⟩)
              | (go_at_call 103; with_reducible refine (HW1.out _).mono ?_; rintro r w' ⟨rfl, rfl⟩)
              | (go_at_call 103; with_reducible refine (HW2.out _).mono ?_; rintro r w' ⟨rfl, rfl⟩))
            exact bodyPost_ret (v := .tuple #[.agg #[.int .i64 0, .int .i64 0, .string ⟨#[]⟩], .int .i64 0, .int .i64 8]) (by simp [results, Tryz.results58, go_sem]) rfl ⟨rfl, HB0.out⟩
          · have HBo := Lib.hid (fun w => vBool_any false w)
            go_enter Tryz.func58, Tryz.ntmps58
            go_wp2_with (first
              | (go_at_call 98; refine (HTrim.out _).mono ?_; rintro r w' ⟨rfl, rfl⟩)
              | (go_at_call 99; refine (HDig.out _).mono ?_; rintro r w' ⟨rfl, rfl⟩)
              | (go_at_call 101; refine (HP.out _).mono ?_; rintro r w' ⟨rfl, rfl⟩)
              | (go_at_call 103; with_reducible refine (HW1.out _).mono ?_; rintro r w' ⟨rfl, rfl⟩)
              | (go_at_call 103; with_reducible refine (HW2.out _).mono ?_; rintro r w' ⟨rfl, rfl⟩))
            refine (HBo.out _).mono ?_
            rintro r w2 ⟨rfl, hb2⟩
            have HX2 := Lib.hid (HX0.out.below hb2)
            have HB2 := Lib.hid (HB0.out.trans (hb2.mono HB0.out.size))
            clear hb2
            obtain ⟨r0, r1, r2⟩ := HX2.out.cells
            have f0 := HX2.out.frozen 0
            have f1 := HX2.out.frozen 1
            have f2 := HX2.out.frozen 2
            have hlx2 := HX2.out.lt
            go_wp2_with fail
            obtain ⟨t0, t1, t2⟩ := (HX2.out.set3' 2 0 ⟨#[]⟩).cells
            have HPo := Lib.hid (Below.set3' HB2.out (Nat.le_refl _) (.int .i64 2) (.int .i64 0) (.string ⟨#[]⟩))
            exact bodyPost_ret (v := .tuple #[.agg #[.int .i64 2, .int .i64 0, .string ⟨#[]⟩], .int .i64 5, .int .i64 0]) (by simp [results, Tryz.results58, go_sem, t0, t1, t2]) rfl ⟨rfl, HPo.out⟩
        · have HBo := Lib.hid (fun w => vBool_any true w)
          go_enter Tryz.func58, Tryz.ntmps58
          go_wp2_with (first
            | (go_at_call 98; refine (HTrim.out _).mono ?_; rintro r w' ⟨rfl, rfl⟩)
            | (go_at_call 99; refine (HDig.out _).mono ?_; rintro r w' ⟨rfl, rfl⟩)
            | (go_at_call 101; refine (HP.out _).mono ?_; rintro r w' ⟨rfl, rfl⟩)
            | (go_at_call 103; with_reducible refine (HW1.out _).mono ?_; rintro r w' ⟨rfl, rfl⟩)
            | (go_at_call 103; with_reducible refine (HW2.out _).mono ?_; rintro r w' ⟨rfl, rfl⟩))
          refine (HBo.out _).mono ?_
          rintro r w2 ⟨rfl, hb2⟩
          have HX2 := Lib.hid (HX0.out.below hb2)
          have HB2 := Lib.hid (HB0.out.trans (hb2.mono HB0.out.size))
          clear hb2
          obtain ⟨r0, r1, r2⟩ := HX2.out.cells
          have f0 := HX2.out.frozen 0
          have f1 := HX2.out.frozen 1
          have f2 := HX2.out.frozen 2
          have hlx2 := HX2.out.lt
          go_wp2_with fail
          obtain ⟨t0, t1, t2⟩ := (HX2.out.set3' 2 1 ⟨#[]⟩).cells
          have HPo := Lib.hid (Below.set3' HB2.out (Nat.le_refl _) (.int .i64 2) (.int .i64 1) (.string ⟨#[]⟩))
          exact bodyPost_ret (v := .tuple #[.agg #[.int .i64 2, .int .i64 1, .string ⟨#[]⟩], .int .i64 4, .int .i64 0]) (by simp [results, Tryz.results58, go_sem, t0, t1, t2]) rfl ⟨rfl, HPo.out⟩
end Go.Proofs.YtfpjepeikjfkpaaGreatDoor
