import Derived.Test.YtidomoibhjgkjaaGreatDoorZC43
import Derived.Test.YtidomoibhjgkjaaGreatDoorZC44
import Derived.IntWalk
/-
  EvalParts: what two parts come to, alone, is what they come to within; an error of a part is one of the whole.
-/
namespace Go.Proofs.YtidomoibhjgkjaaGreatDoor
open Go.RowKit

theorem okV_stepG {get : ByteArray → Option V} {t : TM} {st st' : List V} (ht : okV t.v) (hst : ∀ v ∈ st, okV v) (hget : ∀ nm v, get nm = some v → okV v) (h : stepG get t st = .inl st') : ∀ v ∈ st', okV v := by
  unfold stepG at h
  split at h
  · injection h with h; subst h
    intro v hv
    rcases List.mem_cons.1 hv with rfl | hv
    · exact ht
    · exact hst v hv
  · split at h
    · split at h
      · next v hv =>
        injection h with h; subst h
        intro x hx
        rcases List.mem_cons.1 hx with rfl | hx
        · exact hget _ _ hv
        · exact hst x hx
      · cases h
    · split at h
      · injection h with h; subst h
        intro x hx
        rcases List.mem_cons.1 hx with rfl | hx
        · exact okV_truth _
        · exact hst x hx
      · split at h
        · split at h
          · next a r =>
            split at h
            · injection h with h; subst h
              intro x hx
              rcases List.mem_cons.1 hx with rfl | hx
              · exact okV_one _ (hst a (List.mem_cons_self ..))
              · exact hst x (List.mem_cons_of_mem _ hx)
            · cases h
          · cases h
        · split at h
          · next b a r =>
            split at h
            · injection h with h; subst h
              intro x hx
              rcases List.mem_cons.1 hx with rfl | hx
              · exact okV_two _ (hst a (List.mem_cons_of_mem _ (List.mem_cons_self ..))) (hst b (List.mem_cons_self ..))
              · exact hst x (List.mem_cons_of_mem _ (List.mem_cons_of_mem _ hx))
            · cases h
          · cases h
theorem okV_run {get : ByteArray → Option V} (hget : ∀ nm v, get nm = some v → okV v) : ∀ (l : List TM) (st : List V) (f : Nat) {st' : List V} {m : Nat}, (∀ t ∈ l, okV t.v) → (∀ v ∈ st, okV v) → runG get l st f = (.inl st', m) → ∀ v ∈ st', okV v
  | [], st, f, st', m, _, hst, h => by
    simp only [runG, Prod.mk.injEq, Sum.inl.injEq] at h
    rw [← h.1]; exact hst
  | _ :: _, _, 0, _, _, _, _, h => by simp [runG] at h
  | t :: l, st, f + 1, st', m, hl, hst, h => by
    simp only [runG] at h
    cases hs : stepG get t st with
    | inl s2 =>
      rw [hs] at h
      exact okV_run hget l s2 f (fun t ht => hl t (List.mem_cons_of_mem _ ht)) (okV_stepG (hl t (List.mem_cons_self ..)) hst hget hs) h
    | inr e => rw [hs] at h; simp at h
theorem okV_of {get : ByteArray → Option V} (hget : ∀ nm v, get nm = some v → okV v) {l : List TM} (hl : ∀ t ∈ l, okV t.v) (f : Nat) : okV (ofG get l f).1 := by
  unfold ofG
  split
  · exact okV_zero
  · cases hr : runG get l [] f with
    | mk x m =>
      cases x with
      | inl st =>
        have h := okV_run hget l [] f hl (by simp) hr
        cases st with
        | nil => exact okV_zero
        | cons v r => exact h v (List.mem_cons_self ..)
      | inr e => exact okV_zero
theorem VarsOk.get {w : World} {vs : List VN} {A : Option Addr} {c : Nat} (h : VarsOk w vs A c) : ∀ nm v, getL vs nm = some v → okV v := fun nm v hv => by
  obtain ⟨x, hx, e⟩ := getL_in hv
  rw [← e]
  exact h.ok x hx

namespace evalParts
set_option maxRecDepth 100000 in
set_option maxHeartbeats 4000000 in
/-- done: how many terms are gone over till there is an error. -/
theorem done_any (l : List TM) (A : Option Addr) (c : Nat) (vs : List VN) (A2 : Option Addr) (c2 : Nat) (w : World) (hl : TermsOk w l A) (hv : VarsOk w vs A2 c2) (hG : GlobW w)
    {k n xc : Int} {s : ByteArray} {xn : Nat} {xp : List ByteArray} (hX : ofG (getL vs) l l.length = (⟨k, n, s⟩, xn, xc, xp)) :
    Calls Tryz.prog 26 #[.slice A l.length c, .slice A2 vs.length c2] w fun r w' => r = .returned (.int .i64 ((l.length - xn : Nat) : Int)) ∧ Below w.heap.size w w' := by
  have hll := hl.len
  have HO := Lib.hid (gOfG l A c vs A2 c2 (l.length : Int) w hl hv (by omega) (by omega) hG (by omega) hX)
  have hle := ofG_le (getL vs) l l.length
  rw [hX] at hle
  have hle : xn ≤ l.length := hle
  have hw : wrap64 ((l.length : Int) - (xn : Int)) = ((l.length - xn : Nat) : Int) := by rw [IntWalk.wrap64_in _ (by omega)]; omega
  have HE : Hid (((l.length : Int) - (xn : Int)) = ((l.length - xn : Nat) : Int)) := Lib.hid (by omega)
  clear hl hv hG hX hw
  go_enter Tryz.func26, Tryz.ntmps26
  go_wp2_with fail
  refine HO.out.mono ?_
  rintro r w1 ⟨u, rfl, hb1, _⟩
  go_wp2_with fail
  go_ret
  rw [← HE.out]
  exact ⟨rfl, hb1.trans ((box_below w1 _ _).mono hb1.size)⟩

set_option maxRecDepth 100000 in
set_option maxHeartbeats 8000000 in
theorem walkG (a : List TM) (A : Option Addr) (ca : Nat) (hl : a.length ≤ maxLen) (hn : ∀ x ∈ a, TermIn x) (hca : A = none → ca = 0) (b : List TM) (B : Option Addr) (cb : Nat) (hlb : b.length ≤ maxLen) (hnb : ∀ x ∈ b, TermIn x) (hcb : B = none → cb = 0) (op : Int) (hop : -9223372036854775808 ≤ op ∧ op ≤ 9223372036854775807)
    (vs : List VN) (A2 : Option Addr) (c2 : Nat) (hl2 : vs.length ≤ maxLen) (hn2 : ∀ x ∈ vs, VarIn x) (hc2 : vs.length ≤ c2) (hm2 : c2 ≤ maxLen) (hz2 : A2 = none → c2 = 0)
    (w : World) (hr : RowT w 0 w.heap.size A a) (hrb : RowT w 0 w.heap.size B b) (hr2 : RowN w 0 w.heap.size A2 vs) (hG : GlobW w) :
    Calls Tryz.prog 7 #[.slice A a.length ca, .slice B b.length cb, .int .i64 op, .slice A2 vs.length c2] w fun r w' => r = .returned (.bool true) ∧ Below w.heap.size w w' := by
  have hM : maxLen = 9223372036854775807 := by unfold maxLen; rfl
  have HLv := Lib.hid (fun W (hb : Below w.heap.size w W) => live6_any W (hG.below hb hG.big))
  have HF1 := Lib.hid (fun W (hb : Below w.heap.size w W) => few6_any a A ca vs A2 c2 W (by rw [← hM]; exact hl) (fun x hx => by rw [← hM]; exact ⟨(hn x hx).2, (hn x hx).1.2.2⟩) ((hr.below hb (Nat.le_refl _)).wide (Nat.le_refl _) hb.size) (by rw [← hM]; exact hl2) (fun x hx => by rw [← hM]; exact ⟨(hn2 x hx).1, (hn2 x hx).2.2.2⟩) ((hr2.below hb (Nat.le_refl _)).wide (Nat.le_refl _) hb.size))
  have HF2 : Hid (∀ W, Below w.heap.size w W → Calls Tryz.prog 10 #[.slice B b.length cb, .slice none 0 0] W fun r w' => r = .returned (.bool (few6 b [])) ∧ Below W.heap.size W w') := Lib.hid (fun W hb => few6_any b B cb [] none 0 W (by rw [← hM]; exact hlb) (fun x hx => by rw [← hM]; exact ⟨(hnb x hx).2, (hnb x hx).1.2.2⟩) ((hrb.below hb (Nat.le_refl _)).wide (Nat.le_refl _) hb.size) (by simp) (by simp) (fun h => absurd h (by simp)))
  have B0 := Lib.hid (Below.refl w.heap.size w)
  obtain ⟨f1, hf1⟩ : ∃ f, few6 a vs = f := ⟨_, rfl⟩
  obtain ⟨f2, hf2⟩ : ∃ f, few6 b [] = f := ⟨_, rfl⟩
  rw [hf1] at HF1
  rw [hf2] at HF2
  have HT := Lib.hid (fun (e1 : f1 = true) (e2 : f2 = true) => (⟨few_terms (by rw [hf1]; exact e1) hn hr, few_terms (by rw [hf2]; exact e2) hnb hrb, few_vars (by rw [hf1]; exact e1) hn2 hc2 hm2 hz2 hr2, (few6_yes (by rw [hf1]; exact e1)).2.2.1, (few6_yes (by rw [hf2]; exact e2)).2.2.1⟩ : TermsOk w a A ∧ TermsOk w b B ∧ VarsOk w vs A2 c2 ∧ a.length ≤ 100 ∧ b.length ≤ 100))
  have HG := Lib.hid hG
  have HCA := Lib.hid hca
  have HCB := Lib.hid hcb
  have hopd : (decide (op < 6) = true) ∨ (decide (op < 6) = false ∧ decide (18 < op) = true) ∨ (decide (op < 6) = false ∧ decide (18 < op) = false ∧ Hid (6 ≤ op ∧ op ≤ 18)) := by
    by_cases h1 : op < 6
    · exact .inl (decide_eq_true h1)
    · by_cases h2 : 18 < op
      · exact .inr (.inl ⟨decide_eq_false h1, decide_eq_true h2⟩)
      · exact .inr (.inr ⟨decide_eq_false h1, decide_eq_false h2, Lib.hid ⟨by omega, by omega⟩⟩)
  have HOPD := Lib.hid hopd
  clear hl hn hca hlb hnb hcb hop hl2 hn2 hc2 hm2 hz2 hr hrb hr2 hG hf1 hf2 hopd hM
  go_enter Tryz.func7, Tryz.ntmps7
  go_wp2_with fail
  refine (HLv.out _ B0.out).mono ?_
  rintro r w1 ⟨rfl, hb1⟩
  have HB1 := Lib.hid hb1
  clear hb1
  dsimp only
  go_wp2_with fail
  refine (HF1.out _ HB1.out).mono ?_
  rintro r w2 ⟨rfl, hb2⟩
  have HB2 := Lib.hid (HB1.out.trans (hb2.mono HB1.out.size))
  clear hb2 HB1
  dsimp only
  cases f1
  · go_wp2_with fail
    refine (HLv.out _ HB2.out).mono ?_
    rintro r w3 ⟨rfl, hb3⟩
    have HB3 := Lib.hid (HB2.out.trans (hb3.mono HB2.out.size))
    clear hb3
    dsimp only
    go_wp2
    go_ret
    exact ⟨rfl, HB3.out⟩
  go_wp2_with fail
  refine (HF2.out _ HB2.out).mono ?_
  rintro r w3 ⟨rfl, hb3⟩
  have HB3 := Lib.hid (HB2.out.trans (hb3.mono HB2.out.size))
  clear hb3 HB2
  dsimp only
  cases f2
  · go_wp2_with fail
    refine (HLv.out _ HB3.out).mono ?_
    rintro r w4 ⟨rfl, hb4⟩
    have HB4 := Lib.hid (HB3.out.trans (hb4.mono HB3.out.size))
    clear hb4
    dsimp only
    go_wp2
    go_ret
    exact ⟨rfl, HB4.out⟩
  have hopd := HOPD.out
  clear HOPD
  rcases hopd with d1 | ⟨d1, d2⟩ | ⟨d1, d2, HOP⟩
  · go_wp2_with fail
    refine (HLv.out _ HB3.out).mono ?_
    rintro r w4 ⟨rfl, hb4⟩
    have HB4 := Lib.hid (HB3.out.trans (hb4.mono HB3.out.size))
    clear hb4
    dsimp only
    go_wp2
    go_ret
    exact ⟨rfl, HB4.out⟩
  · go_wp2_with fail
    refine (HLv.out _ HB3.out).mono ?_
    rintro r w4 ⟨rfl, hb4⟩
    have HB4 := Lib.hid (HB3.out.trans (hb4.mono HB3.out.size))
    clear hb4
    dsimp only
    go_wp2
    go_ret
    exact ⟨rfl, HB4.out⟩
  have ht := HT.out (by simp) (by simp)
  have HTA := Lib.hid ht.1
  have HTB := Lib.hid ht.2.1
  have HTV := Lib.hid ht.2.2.1
  have hla := ht.2.2.2.1
  have hlb := ht.2.2.2.2
  clear ht HT HLv HF1 HF2 B0
  have HO0 : Hid (OwnT (w3.alloc (.cells #[] 47)) w3.heap.size (.slice (some ⟨w3.heap.size, 0, none⟩) 0 0) []) := Lib.hid (World.ownsRow_made w3 #[] 0 (Nat.le_refl _) (Nat.zero_le _) (by simp))
  have HBa := Lib.hid (HB3.out.alloc HB3.out.size (.cells #[] 47))
  have hpa := ((HTA.out.below HB3.out).below ((Below.refl _ w3).alloc (Nat.le_refl _) (.cells #[] 47))).row
  have HPA := Lib.hid hpa
  have HS3 := Lib.hid HB3.out.size
  clear hpa
  go_upto_region 3 with fail
  go_wp2_with (first
    | (at_builtin; refine append_terms _ rfl _ _ rfl w3.heap.size (.slice (some ⟨w3.heap.size, 0, none⟩) 0 0) [] rfl HO0.out 0 _ A a.length ca a rfl rfl HCA.out HPA.out (by simp; omega) (by simp) ?_; intro v1 w4 ho1 hg1; have HB4 := Lib.hid (HBa.out.grown hg1 (by simp; have := HS3.out; omega) (by intro k hk; simp [Value.ownBlock] at hk; have := HS3.out; omega)); have HS4 := Lib.hid (show w3.heap.size ≤ w4.heap.size from Nat.le_trans (by simp) hg1.size); have HO1 := Lib.hid ho1; clear ho1 hg1)
    | (at_builtin; refine append_terms _ rfl _ _ rfl w3.heap.size v1 a rfl HO1.out 0 _ B b.length cb b rfl rfl HCB.out (HTB.out.below HB4.out).row (by omega) HS4.out ?_; intro v2 w5 ho2 hg2; have HB5 := Lib.hid (HB4.out.grown hg2 HB4.out.size (fun k hk => Nat.le_trans HS3.out (HO1.out.lt k hk).1)); have HS5 := Lib.hid (show w3.heap.size ≤ w5.heap.size from Nat.le_trans HS4.out hg2.size); have HO2 := Lib.hid ho2; clear ho2 hg2)
    | (at_builtin; refine append_terms _ rfl _ _ rfl w3.heap.size v2 (a ++ b) rfl (HO2.out.allocs _) w5.heap.size (w5.heap.size + 1) (some ⟨w5.heap.size, 0, none⟩) 1 1 [⟨op, V0, ⟨#[]⟩⟩] rfl rfl (by intro h; cases h) (row1T w5 ⟨op, V0, ⟨#[]⟩⟩) (by simp; omega) (by simp; have := HS5.out; omega) ?_; intro v3 w6 ho3 hg3; have HB6 := Lib.hid ((HB5.out.alloc HB5.out.size _).grown hg3 (by simp; have := HB5.out.size; omega) (fun k hk => Nat.le_trans HS3.out (HO2.out.lt k hk).1)); have HO3 := Lib.hid ho3; clear ho3 hg3; obtain ⟨A3, c3, rfl⟩ := HO3.out.form))
  have hbuild : ∃ E : List TM, a ++ b ++ [⟨op, V0, ⟨#[]⟩⟩] = E ∧ E.length = a.length + (b.length + 1) ∧ ∀ t ∈ E, t.nm.size ≤ 100 ∧ okV t.v := by
    refine ⟨_, rfl, by simp, fun t ht => ?_⟩
    rcases List.mem_append.1 ht with ht | ht
    · rcases List.mem_append.1 ht with ht | ht
      · exact HTA.out.ok t ht
      · exact HTB.out.ok t ht
    · rw [List.mem_singleton.1 ht]
      exact ⟨by show (⟨#[]⟩ : ByteArray).size ≤ 100; decide, okV_zero⟩
  obtain ⟨E, hE, hEl, hEok⟩ := hbuild
  have HTE : Hid (TermsOk w6 E A3) := Lib.hid ⟨by omega, hEok, by have h := HO3.out; rw [hE] at h; exact h.reads.wide (Nat.zero_le _) (Nat.le_refl _)⟩
  obtain ⟨N, hN⟩ : ∃ N, a.length + (b.length + 1) = N := ⟨_, rfl⟩
  rw [hN] at hEl ⊢
  have hNb : N ≤ 1000 := by omega
  have HCE : Hid (∀ W, Below w6.heap.size w6 W → Calls Tryz.prog 20 #[.slice A3 N c3] W fun r w' => r = .returned (.int .i64 (checkL E)) ∧ Below W.heap.size W w') := Lib.hid (fun W hb => by have h := check_few c3 (HTE.out.below hb); rw [hEl] at h; exact h)
  have HCkA := Lib.hid (fun W (hb : Below w6.heap.size w6 W) => check_few ca (HTA.out.below (HB6.out.trans (hb.mono HB6.out.size))))
  have HCkB := Lib.hid (fun W (hb : Below w6.heap.size w6 W) => check_few cb (HTB.out.below (HB6.out.trans (hb.mono HB6.out.size))))
  have HP := Lib.hid (fun he ha hb => parts_of (getL vs) (a := a) (b := b) (t := ⟨op, V0, ⟨#[]⟩⟩) HOP.out he ha hb)
  rw [hE] at HP
  simp only [hEl] at HP
  have HOK1 := Lib.hid (okV_of (HTV.out.get) (fun t ht => (HTA.out.ok t ht).2) a.length)
  have HOK2 := Lib.hid (okV_of (HTV.out.get) (fun t ht => (HTB.out.ok t ht).2) b.length)
  have hle1 := ofG_le (getL vs) a a.length
  obtain ⟨X1, hX1⟩ : ∃ X, ofG (getL vs) a a.length = X := ⟨_, rfl⟩
  obtain ⟨X2, hX2⟩ : ∃ X, ofG (getL vs) b b.length = X := ⟨_, rfl⟩
  obtain ⟨X3, hX3⟩ : ∃ X, ofG (getL vs) E N = X := ⟨_, rfl⟩
  have hle3 := ofG_le (getL vs) E N
  rw [hX1, hX2, hX3] at HP
  rw [hX1] at HOK1 hle1
  rw [hX2] at HOK2
  rw [hX3] at hle3
  obtain ⟨⟨k1, m1, t1⟩, n1, x1, p1⟩ := X1
  obtain ⟨⟨k2, m2, t2⟩, n2, x2, p2⟩ := X2
  obtain ⟨⟨k3, m3, t3⟩, n3, x3, p3⟩ := X3
  simp only at HP HOK1 HOK2 hle1 hle3
  have HO1' := Lib.hid (fun W (hb : Below w6.heap.size w6 W) => gOfG a A ca vs A2 c2 (a.length : Int) W (HTA.out.below (HB6.out.trans (hb.mono HB6.out.size))) (HTV.out.below (HB6.out.trans (hb.mono HB6.out.size))) (by omega) (by omega) (HG.out.below (HB6.out.trans (hb.mono HB6.out.size)) HG.out.big) (by omega) hX1)
  have HO2' := Lib.hid (fun W (hb : Below w6.heap.size w6 W) => gOfG b B cb vs A2 c2 (b.length : Int) W (HTB.out.below (HB6.out.trans (hb.mono HB6.out.size))) (HTV.out.below (HB6.out.trans (hb.mono HB6.out.size))) (by omega) (by omega) (HG.out.below (HB6.out.trans (hb.mono HB6.out.size)) HG.out.big) (by omega) hX2)
  have HO3' : Hid (∀ W, Below w6.heap.size w6 W → Calls Tryz.prog 11 #[.slice A3 N c3, .slice A2 vs.length c2, .int .i64 (N : Int)] W fun r w' => ∃ u, r = .returned (.tuple #[.agg #[.int .i64 k3, .int .i64 m3, .string t3], .int .i64 (n3 : Int), u]) ∧ Below W.heap.size W w' ∧ ErrO w' (erOf x3 p3) u) := Lib.hid (fun W hb => by
    have h := gOfG E A3 c3 vs A2 c2 (N : Int) W (HTE.out.below hb) (HTV.out.below (HB6.out.trans (hb.mono HB6.out.size))) (by omega) (by omega) (HG.out.below (HB6.out.trans (hb.mono HB6.out.size)) HG.out.big) (by omega) hX3
    rw [hEl] at h
    exact h)
  have HD := Lib.hid (fun W (hb : Below w6.heap.size w6 W) => done_any a A ca vs A2 c2 W (HTA.out.below (HB6.out.trans (hb.mono HB6.out.size))) (HTV.out.below (HB6.out.trans (hb.mono HB6.out.size))) (HG.out.below (HB6.out.trans (hb.mono HB6.out.size)) HG.out.big) hX1)
  obtain ⟨ckE, hckE⟩ : ∃ y, checkL E = y := ⟨_, rfl⟩
  obtain ⟨ckA, hckA⟩ : ∃ y, checkL a = y := ⟨_, rfl⟩
  obtain ⟨ckB, hckB⟩ : ∃ y, checkL b = y := ⟨_, rfl⟩
  rw [hckE] at HCE HP
  rw [hckA] at HCkA HP
  rw [hckB] at HCkB HP
  have HN := Lib.hid hN
  have HB66 := Lib.hid (Below.refl w6.heap.size w6)
  clear hE hEl hEok hX1 hX2 hX3 hckE hckA hckB hN HO3 HO2 HO1 HO0 HBa HPA HS3 HS4 HS5 HB4 HB5 HTE
  -- the checks
  refine (HCE.out _ HB66.out).mono ?_
  rintro r w7 ⟨rfl, hb7⟩
  have HB7 := Lib.hid hb7
  clear hb7 HB66
  dsimp only
  by_cases hE : ckE = 0
  rotate_left
  · have d : (ckE == 0) = false := by rw [beq_eq_false_iff_ne]; exact hE
    have d' : (ckE != 0) = true := by rw [bne_iff_ne]; exact hE
    have HBZ := Lib.hid (HB6.out.trans (HB7.out.mono HB6.out.size))
    go_wp2
    go_ret
    exact ⟨rfl, HBZ.out⟩
  subst hE
  go_wp2_with fail
  refine (HCkA.out _ HB7.out).mono ?_
  rintro r w8 ⟨rfl, hb8⟩
  have HB8 := Lib.hid (HB7.out.trans (hb8.mono HB7.out.size))
  clear hb8 HB7
  dsimp only
  by_cases hA : ckA = 0
  rotate_left
  · have d : (ckA == 0) = false := by rw [beq_eq_false_iff_ne]; exact hA
    have d' : (ckA != 0) = true := by rw [bne_iff_ne]; exact hA
    have HBZ := Lib.hid (HB6.out.trans (HB8.out.mono HB6.out.size))
    go_wp2
    go_ret
    exact ⟨rfl, HBZ.out⟩
  subst hA
  go_wp2_with fail
  refine (HCkB.out _ HB8.out).mono ?_
  rintro r w9 ⟨rfl, hb9⟩
  have HB9 := Lib.hid (HB8.out.trans (hb9.mono HB8.out.size))
  clear hb9 HB8
  dsimp only
  by_cases hB : ckB = 0
  rotate_left
  · have d : (ckB == 0) = false := by rw [beq_eq_false_iff_ne]; exact hB
    have d' : (ckB != 0) = true := by rw [bne_iff_ne]; exact hB
    have HBZ := Lib.hid (HB6.out.trans (HB9.out.mono HB6.out.size))
    go_wp2
    go_ret
    exact ⟨rfl, HBZ.out⟩
  subst hB
  have HQ := Lib.hid (HP.out (by simp) (by simp) (by simp))
  clear HP HCE HCkA HCkB
  -- a part
  go_wp2_with fail
  refine (HO1'.out _ HB9.out).mono ?_
  rintro r w10 ⟨u1, rfl, hb10, hu1⟩
  dsimp only
  have hb11 := box_below w10 #[.int .i64 k1, .int .i64 m1, .string t1] 27
  have hx := Boxed.new w10 k1 m1 t1
  have hB := HB9.out.trans ((hb10.trans (hb11.mono hb10.size)).mono HB9.out.size)
  have hU := hu1.below hb11
  obtain ⟨w11, hw⟩ : ∃ y, w10.alloc (.cells #[.int .i64 k1, .int .i64 m1, .string t1] 27) = y := ⟨_, rfl⟩
  obtain ⟨s1, hs⟩ : ∃ y, w10.heap.size = y := ⟨_, rfl⟩
  rw [hw] at hx hB hU
  rw [hs] at hx
  have HXa := Lib.hid hx
  have HB11 := Lib.hid hB
  have HUa := Lib.hid hU
  have HW := Lib.hid hw
  have HS := Lib.hid hs
  clear hb10 hb11 hx hB hU hw hs hu1 HB9 HO1'
  go_upto_region 7 with fail
  rw [HW.out, HS.out]
  clear HW HS
  -- the other part
  go_wp2_with fail
  refine (HO2'.out _ HB11.out).mono ?_
  rintro r w12 ⟨u2, rfl, hb12, hu2⟩
  dsimp only
  have hb13 := box_below w12 #[.int .i64 k2, .int .i64 m2, .string t2] 27
  have hx := Boxed.new w12 k2 m2 t2
  have hbb := hb12.trans (hb13.mono hb12.size)
  have hB := HB11.out.trans (hbb.mono HB11.out.size)
  have hU := hu2.below hb13
  have hXa := HXa.out.below hbb
  have hUa := HUa.out.below hbb
  obtain ⟨w13, hw⟩ : ∃ y, w12.alloc (.cells #[.int .i64 k2, .int .i64 m2, .string t2] 27) = y := ⟨_, rfl⟩
  obtain ⟨s2, hs⟩ : ∃ y, w12.heap.size = y := ⟨_, rfl⟩
  rw [hw] at hx hB hU hXa hUa
  rw [hs] at hx
  clear HXa HUa
  have HXa := Lib.hid hXa
  have HUa := Lib.hid hUa
  have HXb := Lib.hid hx
  have HB13 := Lib.hid hB
  have HUb := Lib.hid hU
  have HW := Lib.hid hw
  have HS := Lib.hid hs
  clear hb12 hb13 hbb hx hB hU hw hs hu2 HB11 HO2' hXa hUa
  go_upto_region 8 with fail
  rw [HW.out, HS.out]
  clear HW HS
  -- both
  go_wp2_with fail
  refine (HO3'.out _ HB13.out).mono ?_
  rintro r w14 ⟨u3, rfl, hb14, hu3⟩
  dsimp only
  have hb15 := box_below w14 #[.int .i64 k3, .int .i64 m3, .string t3] 27
  have hx := Boxed.new w14 k3 m3 t3
  have hbb := hb14.trans (hb15.mono hb14.size)
  have hB := HB13.out.trans (hbb.mono HB13.out.size)
  have hU := hu3.below hb15
  have hXa := HXa.out.below hbb
  have hUa := HUa.out.below hbb
  have hXb := HXb.out.below hbb
  have hUb := HUb.out.below hbb
  obtain ⟨w15, hw⟩ : ∃ y, w14.alloc (.cells #[.int .i64 k3, .int .i64 m3, .string t3] 27) = y := ⟨_, rfl⟩
  obtain ⟨s3, hs⟩ : ∃ y, w14.heap.size = y := ⟨_, rfl⟩
  rw [hw] at hx hB hU hXa hUa hXb hUb
  rw [hs] at hx
  clear HXa HUa HXb HUb
  have HXa := Lib.hid hXa
  have HUa := Lib.hid hUa
  have HXb := Lib.hid hXb
  have HUb := Lib.hid hUb
  have HXc := Lib.hid hx
  have HB15 := Lib.hid hB
  have HUc := Lib.hid hU
  have HW := Lib.hid hw
  have HS := Lib.hid hs
  have HG15 := Lib.hid (HG.out.below (HB6.out.trans (hB.mono HB6.out.size)) HG.out.big)
  clear hb14 hb15 hbb hx hB hU hw hs hu3 HB13 HO3' hXa hUa hXb hUb
  have HL1 := Lib.hid hle1
  have HL3 := Lib.hid hle3
  have HLA := Lib.hid hla
  have HNB := Lib.hid hNb
  have HBF := Lib.hid (HB6.out.trans (HB15.out.mono HB6.out.size))
  clear hle1 hle3 hla hlb hNb
  go_upto_region 9 with fail
  rw [HW.out, HS.out]
  clear HW HS
  have HC3 := Lib.hid (codeE_from HUc.out HG15.out)
  have HC1 := Lib.hid (codeE_from HUa.out HG15.out)
  have HC2 := Lib.hid (codeE_from HUb.out HG15.out)
  by_cases h1 : x1 = 0
  rotate_left
  · obtain ⟨e3, hn3⟩ := HQ.out.1 h1
    subst e3
    obtain ⟨T, y, rfl⟩ := HUa.out.some' h1
    have hw : wrap64 ((N : Int) - ((a.length - n1 : Nat) : Int)) = (n3 : Int) := by
      have := HL1.out
      have := HLA.out
      have := HNB.out
      rw [IntWalk.wrap64_in _ (by omega)]
      omega
    have HWn := Lib.hid hw
    clear h1 hn3 hw
    go_wp2_with fail
    refine (HC3.out _ (Below.refl _ _)).mono ?_
    rintro r w16 ⟨rfl, hb16⟩
    have H16 := Lib.hid hb16
    clear hb16
    dsimp only
    go_wp2_with fail
    refine (HC1.out _ H16.out).mono ?_
    rintro r w17 ⟨rfl, hb17⟩
    have H17 := Lib.hid hb17
    clear hb17 H16
    dsimp only
    go_wp2_with fail
    refine (HD.out _ (HB15.out.trans (H17.out.mono HB15.out.size))).mono ?_
    rintro r w18 ⟨rfl, hb18⟩
    have HB18 := Lib.hid (HBF.out.trans ((H17.out.trans (hb18.mono H17.out.size)).mono HBF.out.size))
    clear hb18 H17
    dsimp only
    have hw := HWn.out
    go_wp2
    go_ret
    exact ⟨rfl, HB18.out⟩
  subst h1
  obtain rfl := HUa.out.zero
  by_cases h2 : x2 = 0
  rotate_left
  · have e3 := HQ.out.2.1 rfl h2
    subst e3
    obtain ⟨T, y, rfl⟩ := HUb.out.some' h2
    clear h2
    go_wp2_with fail
    refine (HC3.out _ (Below.refl _ _)).mono ?_
    rintro r w16 ⟨rfl, hb16⟩
    have H16 := Lib.hid hb16
    clear hb16
    dsimp only
    go_wp2_with fail
    refine (HC2.out _ H16.out).mono ?_
    rintro r w17 ⟨rfl, hb17⟩
    have HB17 := Lib.hid (HBF.out.trans (hb17.mono HBF.out.size))
    clear hb17 H16
    dsimp only
    go_wp2
    go_ret
    exact ⟨rfl, HB17.out⟩
  subst h2
  obtain rfl := HUb.out.zero
  obtain ⟨e1, e2, e3⟩ := HQ.out.2.2 rfl rfl
  obtain ⟨Y, hY⟩ : ∃ Y, twoV op ⟨k1, m1, t1⟩ ⟨k2, m2, t2⟩ = Y := ⟨_, rfl⟩
  simp only [hY] at e1 e2
  obtain ⟨⟨yk, yn, ys⟩, yc⟩ := Y
  simp only at e1 e2
  injection e1 with g1 g2 g3
  subst g1 g2 g3 e2 e3
  have HTw : Hid (∀ W, Calls Tryz.prog 27 #[.int .i64 op, .agg #[.int .i64 k1, .int .i64 m1, .string t1], .agg #[.int .i64 k2, .int .i64 m2, .string t2]] W fun r w' => r = .returned (.tuple #[.agg #[.int .i64 k3, .int .i64 m3, .string t3], .int .i64 x3]) ∧ Below W.heap.size W w') := Lib.hid (twoR HOK1.out HOK2.out hY)
  obtain ⟨a0, a1, a2⟩ := HXa.out.cells
  obtain ⟨b0, b1, b2⟩ := HXb.out.cells
  simp only at a0 a1 a2 b0 b1 b2
  clear hY HQ
  go_wp2_with fail
  refine (HTw.out _).mono ?_
  rintro r w16 ⟨rfl, hb16⟩
  dsimp only
  have hb17 := box_below w16 #[.int .i64 k3, .int .i64 m3, .string t3] 27
  have hx := Boxed.new w16 k3 m3 t3
  have hbb := hb16.trans (hb17.mono hb16.size)
  have hXc := HXc.out.below hbb
  obtain ⟨w17, hw⟩ : ∃ y, w16.alloc (.cells #[.int .i64 k3, .int .i64 m3, .string t3] 27) = y := ⟨_, rfl⟩
  obtain ⟨s4, hs⟩ : ∃ y, w16.heap.size = y := ⟨_, rfl⟩
  rw [hw] at hx hbb hXc
  rw [hs] at hx
  have HB17 := Lib.hid hbb
  have HW := Lib.hid hw
  have HS := Lib.hid hs
  have HXd := Lib.hid hx
  have HXe := Lib.hid hXc
  clear hb16 hb17 hx hbb hXc hw hs HTw a0 a1 a2 b0 b1 b2
  go_upto_region 14 with fail
  rw [HW.out, HS.out]
  clear HW HS
  obtain ⟨c0, c1, c2'⟩ := HXe.out.cells
  obtain ⟨d0, d1', d2'⟩ := HXd.out.cells
  simp only at c0 c1 c2' d0 d1' d2'
  have q : ∀ w, (Op.equalIn 10000 27 (.agg #[.int .i64 k3, .int .i64 m3, .string t3]) (.agg #[.int .i64 k3, .int .i64 m3, .string t3])).run Tryz.prog w = .ok true w := fun w => by
    rw [eq_in, eqV_self]
  go_wp2_with fail
  refine (HC3.out _ HB17.out).mono ?_
  rintro r w18 ⟨rfl, hb18⟩
  have HB18 := Lib.hid (HBF.out.trans (hb18.mono HBF.out.size))
  clear hb18
  dsimp only
  go_wp2
  go_ret
  exact ⟨rfl, HB18.out⟩
end evalParts
end Go.Proofs.YtidomoibhjgkjaaGreatDoor
