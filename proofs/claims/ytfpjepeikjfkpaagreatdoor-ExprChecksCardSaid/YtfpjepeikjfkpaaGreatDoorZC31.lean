import Derived.Test.YtfpjepeikjfkpaaGreatDoorZC28
import Derived.Test.YtfpjepeikjfkpaaGreatDoorZC25
import Derived.Deep.DeepCutAuto
/-
  Package expr: the next token.
-/
namespace Go.Proofs.YtfpjepeikjfkpaaGreatDoor
open Go.RowKit

theorem set7 {W : World} {h : Nat} {x0 x1 x2 x3 x4 x5 x6 : Value} {t : TypeId} (hq : W.heap[h]? = some (.cells #[x0, x1, x2, x3, x4, x5, x6] t (0, 0))) (a0 a1 a2 a3 a4 a5 a6 : Value) :
    (((((((W.setCell ⟨h, 0, none⟩ a0).setCell ⟨h, 1, none⟩ a1).setCell ⟨h, 2, none⟩ a2).setCell ⟨h, 3, none⟩ a3).setCell ⟨h, 4, none⟩ a4).setCell ⟨h, 5, none⟩ a5).setCell ⟨h, 6, none⟩ a6).heap[h]? = some (.cells #[a0, a1, a2, a3, a4, a5, a6] t (0, 0)) := by
  have h0 : (W.setCell ⟨h, 0, none⟩ a0).heap[h]? = some (.cells #[a0, x1, x2, x3, x4, x5, x6] t (0, 0)) := by rw [heap_setCell_same _ h 0 _ t a0 hq]; rfl
  have h1 : ((W.setCell ⟨h, 0, none⟩ a0).setCell ⟨h, 1, none⟩ a1).heap[h]? = some (.cells #[a0, a1, x2, x3, x4, x5, x6] t (0, 0)) := by rw [heap_setCell_same _ h 1 _ t a1 h0]; rfl
  have h2 : (((W.setCell ⟨h, 0, none⟩ a0).setCell ⟨h, 1, none⟩ a1).setCell ⟨h, 2, none⟩ a2).heap[h]? = some (.cells #[a0, a1, a2, x3, x4, x5, x6] t (0, 0)) := by rw [heap_setCell_same _ h 2 _ t a2 h1]; rfl
  have h3 : ((((W.setCell ⟨h, 0, none⟩ a0).setCell ⟨h, 1, none⟩ a1).setCell ⟨h, 2, none⟩ a2).setCell ⟨h, 3, none⟩ a3).heap[h]? = some (.cells #[a0, a1, a2, a3, x4, x5, x6] t (0, 0)) := by rw [heap_setCell_same _ h 3 _ t a3 h2]; rfl
  have h4 : (((((W.setCell ⟨h, 0, none⟩ a0).setCell ⟨h, 1, none⟩ a1).setCell ⟨h, 2, none⟩ a2).setCell ⟨h, 3, none⟩ a3).setCell ⟨h, 4, none⟩ a4).heap[h]? = some (.cells #[a0, a1, a2, a3, a4, x5, x6] t (0, 0)) := by rw [heap_setCell_same _ h 4 _ t a4 h3]; rfl
  have h5 : ((((((W.setCell ⟨h, 0, none⟩ a0).setCell ⟨h, 1, none⟩ a1).setCell ⟨h, 2, none⟩ a2).setCell ⟨h, 3, none⟩ a3).setCell ⟨h, 4, none⟩ a4).setCell ⟨h, 5, none⟩ a5).heap[h]? = some (.cells #[a0, a1, a2, a3, a4, a5, x6] t (0, 0)) := by rw [heap_setCell_same _ h 5 _ t a5 h4]; rfl
  have h6 : (((((((W.setCell ⟨h, 0, none⟩ a0).setCell ⟨h, 1, none⟩ a1).setCell ⟨h, 2, none⟩ a2).setCell ⟨h, 3, none⟩ a3).setCell ⟨h, 4, none⟩ a4).setCell ⟨h, 5, none⟩ a5).setCell ⟨h, 6, none⟩ a6).heap[h]? = some (.cells #[a0, a1, a2, a3, a4, a5, a6] t (0, 0)) := by rw [heap_setCell_same _ h 6 _ t a6 h5]; rfl
  exact h6
/-- What the call gives: the cells of the token in its result's block, and the number. -/
theorem results_tok {tmps : Array Value} {w : World} {h : Nat} {t : TypeId} {a0 a1 a2 a3 a4 a5 a6 x : Value} (h4 : tmps[4]? = some (.pointer (some ⟨h, 0, none⟩))) (h5 : tmps[5]? = some x)
    (hb : w.heap[h]? = some (.cells #[a0, a1, a2, a3, a4, a5, a6] t (0, 0))) : (results Tryz.f34 tmps).run Tryz.prog w = .ok (.tuple #[.agg #[a0, a1, a2, a3, a4, a5, a6], x]) w := by
  have hl := run_loadCells_list (P := Tryz.prog) w ⟨h, 0, none⟩ [a0, a1, a2, a3, a4, a5, a6] (fun j v hv => by
    have e : (⟨h, 0, none⟩ : Addr).add j = ⟨h, j, none⟩ := by unfold Addr.add; split <;> simp_all
    rw [e]
    simp only [World.cell?, hb]
    simpa using hv)
  rw [show ([a0, a1, a2, a3, a4, a5, a6] : List Value).length = 7 from rfl] at hl
  have ha : (isAgg 63).run Tryz.prog w = .ok true w := by kernel_rfl
  have hz : (sizeOf 63).run Tryz.prog w = .ok 7 w := by kernel_rfl
  simp [results, Tryz.results34, asAddr, loadVar, ha, hz, hl, h4, h5]
theorem textGo_err : ∀ (k : Nat) (l acc : List UInt8) (p : Nat), l.length ≤ k → (textGo l acc p).2.2 = 0 ∨ (textGo l acc p).2.1 = 0 := by
  intro k
  induction k with
  | zero =>
    intro l acc p hk
    have : l = [] := List.eq_nil_of_length_eq_zero (by omega)
    subst this
    exact .inr (by simp [textGo])
  | succ k ih =>
    intro l acc p hk
    cases l with
    | nil => exact .inr (by simp [textGo])
    | cons c r =>
      rw [List.length_cons] at hk
      rw [textGo_cons]
      split
      · split
        · exact .inr rfl
        · exact .inl rfl
      · split
        · cases r with
          | nil => exact .inr rfl
          | cons d r2 =>
            rw [List.length_cons] at hk
            simp only
            split
            · exact ih r2 _ _ (by omega)
            · cases r2 with
              | nil => exact .inr rfl
              | cons e r3 =>
                rw [List.length_cons] at hk
                simp only
                split
                · split
                  · exact .inr rfl
                  · exact ih r3 _ _ (by omega)
                · exact .inr rfl
        · split
          · exact ih r _ _ (by omega)
          · exact .inr rfl
theorem parseV_err (l : List UInt8) : (parseV l).2.2 = 0 ∨ (parseV l).2.1 = 0 := by
  unfold parseV
  split
  · unfold numV
    split
    · exact .inr rfl
    · split
      · exact .inl rfl
      · exact .inr rfl
  · split
    · exact textGo_err _ _ _ _ (Nat.le_refl _)
    · unfold wordV
      split
      · exact .inl rfl
      · split
        · exact .inl rfl
        · exact .inr rfl
theorem parseV_n (l : List UInt8) : (parseV l).2.1 ≤ l.length := by
  rcases parseV_err l with h | h
  · exact (parseV_right (show parseV l = ((parseV l).1, (parseV l).2.1, 0) by rw [← h])).2.2.1
  · omega
/-- The token that next gives, and what is wrong. -/
def retTok (k a z : Int) (tx : ByteArray) (v : V) (e : Int) : Ending := .returned (.tuple #[tokVal k a z tx v, .int .i64 e])

set_option maxRecDepth 100000 in
set_option maxHeartbeats 8000000 in
theorem next_end (s : ByteArray) (p p' : Nat) (hn : s.size ≤ 5000) (hpp : p ≤ p') (hp' : p' ≤ s.size) (hbl : ∀ (j : Nat) (h : j < s.size), p ≤ j → j < p' → s[j] = 32) (he : p' = s.size) (w : World) (hG : GlobE w) :
    Calls Tryz.prog 34 #[.string s, .int .i64 (p : Int)] w fun r w' => r = retTok 3 (p' : Int) (p' : Int) mtS V0 0 ∧ Below w.heap.size w w' := by
  have HBL := Lib.hid hbl
  have HG := Lib.hid hG
  clear hbl hG
  have HE := Lib.hid he
  clear he
  have HB0 := Lib.hid ((Below.refl w.heap.size w).alloc (Nat.le_refl _) (.cells #[.int .i64 0, .int .i64 0, .int .i64 0, .string ⟨#[]⟩, .int .i64 0, .int .i64 0, .string ⟨#[]⟩] 63))
  go_enter Tryz.func34, Tryz.ntmps34
  go_wp2_with fail
  go_loopg [1] (p' - p) (fun q i wr => ∃ j : Nat, j + q = p' ∧ p ≤ j ∧ i = .int .i64 (j : Int) ∧ wr = w.alloc (.cells #[.int .i64 0, .int .i64 0, .int .i64 0, .string ⟨#[]⟩, .int .i64 0, .int .i64 0, .string ⟨#[]⟩] 63))
  case atStart => exact ⟨p, by omega, Nat.le_refl _, rfl, rfl⟩
  case round =>
    obtain ⟨j, hk, hpj, rfl, rfl⟩ := hrel
    have HK := Lib.hid hk
    clear hk
    by_cases hj : j < p'
    · have hjs : j < s.size := by omega
      have d1 : decide ((j : Int) < (s.size : Int)) = true := by rw [decide_eq_true_iff]; omega
      have d2 : decide (j < s.size) = true := by simpa using hjs
      have hc := HBL.out j hjs hpj hj
      have d3 : ((s[j].toNat : Int) == 32) = true := by rw [hc]; rfl
      clear hc
      go_wp2_with fail
      go_roundg (gk - 1)
      case measure => have := HK.out; omega
      case rel => exact ⟨j + 1, by have := HK.out; omega, by omega, by go_num, rfl⟩
    · obtain rfl : j = p' := by have := HK.out; omega
      clear hj HBL HK
      have d1 : decide ((j : Int) < (s.size : Int)) = false := by rw [decide_eq_false_iff_not]; have := HE.out; omega
      have d2 : decide (j < s.size) = false := by rw [decide_eq_false_iff_not]; have := HE.out; omega
      have d3 : ((j : Int) == (s.size : Int)) = true := by rw [beq_iff_eq]; have := HE.out; omega
      have d4 : (j == s.size) = true := by rw [beq_iff_eq]; have := HE.out; omega
      go_wp2_with fail
      exact bodyPost_ret (v := .tuple #[tokVal 3 (j : Int) (j : Int) mtS V0, .int .i64 0]) (by simp [results, Tryz.results34, go_sem]; rfl) rfl ⟨rfl, ((Below.refl _ w).alloc (Nat.le_refl _) _).alloc (by simp) _⟩


set_option maxRecDepth 100000 in
set_option maxHeartbeats 8000000 in
theorem next_digit (s : ByteArray) (p p' : Nat) (hn : s.size ≤ 5000) (hpp : p ≤ p') (hp' : p' ≤ s.size) (hbl : ∀ (j : Nat) (h : j < s.size), p ≤ j → j < p' → s[j] = 32) (hps : p' < s.size) (hne : ∀ h : p' < s.size, s[p'] ≠ 32) (HT : ∀ h : p' < s.size, numD s[p'] = true) (w : World) (hG : GlobE w) :
    Calls Tryz.prog 34 #[.string s, .int .i64 (p : Int)] w fun r w' => r = retTok 1 (p' : Int) ((p' : Int) + (parseV (s.data.toList.drop p')).2.1) mtS (parseV (s.data.toList.drop p')).1 (parseV (s.data.toList.drop p')).2.2 ∧ Below w.heap.size w w' := by
  have HBL := Lib.hid hbl
  have HG := Lib.hid hG
  clear hbl hG
  obtain ⟨d, hd⟩ : ∃ d, d = s.extract p' s.size := ⟨_, rfl⟩
  have hdl : d.data.toList = s.data.toList.drop p' := by rw [hd, ext_drop]
  have hds : d.size = s.size - p' := by
    show d.data.toList.length = _
    rw [hdl, List.length_drop]; rfl
  have hex : s.extract p' s.size = d := hd.symm
  have hz0 : 0 < d.size := by omega
  have hne32 : s[p'] ≠ 32 := hne hps
  have hsd : s[p'] = d[0] := by
    have h1 : d.data.toList[0]'(by exact hz0) = d[0] := rfl
    rw [← h1]
    simp only [hdl, List.getElem_drop]
    rfl
  obtain ⟨c, r, hcr⟩ : ∃ c r, d.data.toList = c :: r := by
    cases hq : d.data.toList with
    | nil => have : d.data.toList.length = 0 := by rw [hq]; rfl
             have : d.size = 0 := this
             omega
    | cons c r => exact ⟨c, r, rfl⟩
  have hd0 : d[0] = c := by
    have h1 : d.data.toList[0]'(by exact hz0) = d[0] := rfl
    rw [← h1]
    simp [hcr]
  rw [hd0] at hsd
  rw [hsd] at hne32
  have HT1 := HT hps
  rw [hsd] at HT1
  rw [← hdl, hcr]
  clear hd hdl hne HT
  have HPV := Lib.hid (fun wx hR => parse_all d (by omega) wx hR)
  have HD := Lib.hid (dDigit_any c)
  rw [HT1] at HD
  rw [hcr] at HPV
  clear HT1
  generalize hpv : parseV (c :: r) = pv at *
  obtain ⟨⟨vk, vn, vs⟩, pn, pe⟩ := pv
  have hpn : pn ≤ 1000000 := by
    have := parseV_n (c :: r)
    rw [hpv] at this
    have h2 : d.data.toList.length = d.size := rfl
    rw [hcr] at h2
    simp only at this
    omega
  clear hcr
  simp only [retTake, V.val] at HPV ⊢
  have HR1 := Lib.hid (show RangeW ((w.alloc (.cells #[.int .i64 0, .int .i64 0, .int .i64 0, .string ⟨#[]⟩, .int .i64 0, .int .i64 0, .string ⟨#[]⟩] 63)).alloc (.cells #[.int .i64 0, .int .i64 (p' : Int), .int .i64 (p' : Int), .string ⟨#[]⟩, .int .i64 0, .int .i64 0, .string ⟨#[]⟩] 63)) from HG.out.r.below (((Below.refl _ _).alloc (Nat.le_refl _) _).alloc (by simp) _))

  have HB0 := Lib.hid ((Below.refl w.heap.size w).alloc (Nat.le_refl _) (.cells #[.int .i64 0, .int .i64 0, .int .i64 0, .string ⟨#[]⟩, .int .i64 0, .int .i64 0, .string ⟨#[]⟩] 63))
  go_enter Tryz.func34, Tryz.ntmps34
  go_wp2_with fail
  go_loopg [1] (p' - p) (fun q i wr => ∃ j : Nat, j + q = p' ∧ p ≤ j ∧ i = .int .i64 (j : Int) ∧ wr = w.alloc (.cells #[.int .i64 0, .int .i64 0, .int .i64 0, .string ⟨#[]⟩, .int .i64 0, .int .i64 0, .string ⟨#[]⟩] 63))
  case atStart => exact ⟨p, by omega, Nat.le_refl _, rfl, rfl⟩
  case round =>
    obtain ⟨j, hk, hpj, rfl, rfl⟩ := hrel
    have HK := Lib.hid hk
    clear hk
    by_cases hj : j < p'
    · have hjs : j < s.size := by omega
      have d1 : decide ((j : Int) < (s.size : Int)) = true := by rw [decide_eq_true_iff]; omega
      have d2 : decide (j < s.size) = true := by simpa using hjs
      have hc := HBL.out j hjs hpj hj
      have d3 : ((s[j].toNat : Int) == 32) = true := by rw [hc]; rfl
      clear hc
      go_wp2_with fail
      go_roundg (gk - 1)
      case measure => have := HK.out; omega
      case rel => exact ⟨j + 1, by have := HK.out; omega, by omega, by go_num, rfl⟩
    · obtain rfl : j = p' := by have := HK.out; omega
      clear hj HBL HK
      have d1 : decide ((j : Int) < (s.size : Int)) = true := by rw [decide_eq_true_iff]; omega
      have d2 : decide (j < s.size) = true := by simpa using hps
      have d3 : ((s[j].toNat : Int) == 32) = false := v8_ne (n := 32) (by omega) (fun h => by rw [hsd] at h; exact hne32 h)
      have d4 : ((j : Int) == (s.size : Int)) = false := by rw [beq_eq_false_iff_ne]; omega
      have d5 : (j == s.size) = false := by rw [beq_eq_false_iff_ne]; omega
      clear hne32 hsd
      go_upto_region 12 with (first | (go_at_call 57; refine (HD.out _).mono ?_; rintro r w' ⟨rfl, rfl⟩) | (go_at_call 58; refine (HPV.out _ HR1.out).mono ?_; rintro r w1 ⟨rfl, hb1⟩; have e0 := hb1.block w.heap.size (by simp; omega); have e1 := hb1.block (w.heap.size + 1) (by simp); rw [heap_alloc2_old] at e0; rw [heap_alloc2_new] at e1; have hs1 := hb1.size; simp at hs1; have E0 := Lib.hid e0; have E1 := Lib.hid e1; clear e0 e1; have HB1 := Lib.hid hb1; clear hb1))
      obtain ⟨W2, hW2⟩ : ∃ y, w1.alloc (.cells #[.int .i64 vk, .int .i64 vn, .string vs] 42) = y := ⟨_, rfl⟩
      have q0 := (show W2.heap[w.heap.size]? = w1.heap[w.heap.size]? from by rw [← hW2, Below.heap_alloc _ _ _ (by omega)]).trans E0.out
      have q1 := (show W2.heap[w.heap.size + 1]? = w1.heap[w.heap.size + 1]? from by rw [← hW2, Below.heap_alloc _ _ _ (by omega)]).trans E1.out
      have q2 : W2.heap[w1.heap.size]? = some (.cells #[.int .i64 vk, .int .i64 vn, .string vs] 42 (0, 0)) := by rw [← hW2]; exact heap_alloc_new _ _
      have HB2 := Lib.hid (show Below w.heap.size w W2 from by rw [← hW2]; exact ((((Below.refl w.heap.size w).alloc (Nat.le_refl _) _).alloc (by simp) _).trans (HB1.out.mono (by simp; omega))).alloc (by omega) _)
      rw [hW2]
      clear hW2 HB1 E0 E1 HB0
      have c0 := cellAt (o := 0) q0 rfl
      have d10 := cellAt (o := 0) q1 rfl
      have f0 := frozenAt (o := 0) q0
      have g0 := frozenAt (o := 0) q1
      have c1 := cellAt (o := 1) q0 rfl
      have d11 := cellAt (o := 1) q1 rfl
      have f1 := frozenAt (o := 1) q0
      have g1 := frozenAt (o := 1) q1
      have c2 := cellAt (o := 2) q0 rfl
      have d12 := cellAt (o := 2) q1 rfl
      have f2 := frozenAt (o := 2) q0
      have g2 := frozenAt (o := 2) q1
      have c3 := cellAt (o := 3) q0 rfl
      have d13 := cellAt (o := 3) q1 rfl
      have f3 := frozenAt (o := 3) q0
      have g3 := frozenAt (o := 3) q1
      have c4 := cellAt (o := 4) q0 rfl
      have d14 := cellAt (o := 4) q1 rfl
      have f4 := frozenAt (o := 4) q0
      have g4 := frozenAt (o := 4) q1
      have c5 := cellAt (o := 5) q0 rfl
      have d15 := cellAt (o := 5) q1 rfl
      have f5 := frozenAt (o := 5) q0
      have g5 := frozenAt (o := 5) q1
      have c6 := cellAt (o := 6) q0 rfl
      have d16 := cellAt (o := 6) q1 rfl
      have f6 := frozenAt (o := 6) q0
      have g6 := frozenAt (o := 6) q1
      have x0 := cellAt (o := 0) q2 rfl
      have x1 := cellAt (o := 1) q2 rfl
      have x2 := cellAt (o := 2) q2 rfl
      have Q0 := Lib.hid q0
      clear q0 q1 q2
      go_region
      all_goals
        go_wp2_with fail
        refine bodyPost_ret (results_tok (a0 := .int .i64 1) (a1 := .int .i64 j) (a2 := .int .i64 ((j : Int) + pn)) (a3 := .string ⟨#[]⟩) (a4 := .int .i64 vk) (a5 := .int .i64 vn) (a6 := .string vs) (h := w.heap.size) (t := 63) (x := .int .i64 pe) (by rfl) (by rfl) ?_) (by rfl) ⟨rfl, ?_⟩
        · rw [heap_drew]
          refine set7 (x0 := .int .i64 0) (x1 := .int .i64 0) (x2 := .int .i64 0) (x3 := .string ⟨#[]⟩) (x4 := .int .i64 0) (x5 := .int .i64 0) (x6 := .string ⟨#[]⟩) ?_ _ _ _ _ _ _ _
          rw [heap_setCell_other _ _ _ _ (by show _ ≠ _; simp), heap_setCell_other _ _ _ _ (by show _ ≠ _; simp), heap_setCell_other _ _ _ _ (by show _ ≠ _; simp), heap_setCell_other _ _ _ _ (by show _ ≠ _; simp), heap_setCell_other _ _ _ _ (by show _ ≠ _; simp)]
          exact Q0.out
        · refine Below.drew ?_
          repeat (refine Below.setCell ?_ (by show _ ≤ _; simp) _)
          exact HB2.out


set_option maxRecDepth 100000 in
set_option maxHeartbeats 8000000 in
theorem next_quote (s : ByteArray) (p p' : Nat) (hn : s.size ≤ 5000) (hpp : p ≤ p') (hp' : p' ≤ s.size) (hbl : ∀ (j : Nat) (h : j < s.size), p ≤ j → j < p' → s[j] = 32) (hps : p' < s.size) (hne : ∀ h : p' < s.size, s[p'] ≠ 32) (HT : ∀ h : p' < s.size, numD s[p'] = false ∧ s[p'] = 34) (w : World) (hG : GlobE w) :
    Calls Tryz.prog 34 #[.string s, .int .i64 (p : Int)] w fun r w' => r = retTok 1 (p' : Int) ((p' : Int) + (parseV (s.data.toList.drop p')).2.1) mtS (parseV (s.data.toList.drop p')).1 (parseV (s.data.toList.drop p')).2.2 ∧ Below w.heap.size w w' := by
  have HBL := Lib.hid hbl
  have HG := Lib.hid hG
  clear hbl hG
  obtain ⟨d, hd⟩ : ∃ d, d = s.extract p' s.size := ⟨_, rfl⟩
  have hdl : d.data.toList = s.data.toList.drop p' := by rw [hd, ext_drop]
  have hds : d.size = s.size - p' := by
    show d.data.toList.length = _
    rw [hdl, List.length_drop]; rfl
  have hex : s.extract p' s.size = d := hd.symm
  have hz0 : 0 < d.size := by omega
  have hne32 : s[p'] ≠ 32 := hne hps
  have hsd : s[p'] = d[0] := by
    have h1 : d.data.toList[0]'(by exact hz0) = d[0] := rfl
    rw [← h1]
    simp only [hdl, List.getElem_drop]
    rfl
  obtain ⟨c, r, hcr⟩ : ∃ c r, d.data.toList = c :: r := by
    cases hq : d.data.toList with
    | nil => have : d.data.toList.length = 0 := by rw [hq]; rfl
             have : d.size = 0 := this
             omega
    | cons c r => exact ⟨c, r, rfl⟩
  have hd0 : d[0] = c := by
    have h1 : d.data.toList[0]'(by exact hz0) = d[0] := rfl
    rw [← h1]
    simp [hcr]
  rw [hd0] at hsd
  rw [hsd] at hne32
  have HT1 := HT hps
  rw [hsd] at HT1
  rw [← hdl, hcr]
  clear hd hdl hne HT
  have HPV := Lib.hid (fun wx hR => parse_all d (by omega) wx hR)
  have HD := Lib.hid (dDigit_any c)
  rw [HT1.1] at HD
  have b34 : ((c.toNat : Int) == 34) = true := by rw [HT1.2]; rfl
  rw [hcr] at HPV
  clear HT1
  generalize hpv : parseV (c :: r) = pv at *
  obtain ⟨⟨vk, vn, vs⟩, pn, pe⟩ := pv
  have hpn : pn ≤ 1000000 := by
    have := parseV_n (c :: r)
    rw [hpv] at this
    have h2 : d.data.toList.length = d.size := rfl
    rw [hcr] at h2
    simp only at this
    omega
  clear hcr
  simp only [retTake, V.val] at HPV ⊢
  have HR1 := Lib.hid (show RangeW ((w.alloc (.cells #[.int .i64 0, .int .i64 0, .int .i64 0, .string ⟨#[]⟩, .int .i64 0, .int .i64 0, .string ⟨#[]⟩] 63)).alloc (.cells #[.int .i64 0, .int .i64 (p' : Int), .int .i64 (p' : Int), .string ⟨#[]⟩, .int .i64 0, .int .i64 0, .string ⟨#[]⟩] 63)) from HG.out.r.below (((Below.refl _ _).alloc (Nat.le_refl _) _).alloc (by simp) _))

  have HB0 := Lib.hid ((Below.refl w.heap.size w).alloc (Nat.le_refl _) (.cells #[.int .i64 0, .int .i64 0, .int .i64 0, .string ⟨#[]⟩, .int .i64 0, .int .i64 0, .string ⟨#[]⟩] 63))
  go_enter Tryz.func34, Tryz.ntmps34
  go_wp2_with fail
  go_loopg [1] (p' - p) (fun q i wr => ∃ j : Nat, j + q = p' ∧ p ≤ j ∧ i = .int .i64 (j : Int) ∧ wr = w.alloc (.cells #[.int .i64 0, .int .i64 0, .int .i64 0, .string ⟨#[]⟩, .int .i64 0, .int .i64 0, .string ⟨#[]⟩] 63))
  case atStart => exact ⟨p, by omega, Nat.le_refl _, rfl, rfl⟩
  case round =>
    obtain ⟨j, hk, hpj, rfl, rfl⟩ := hrel
    have HK := Lib.hid hk
    clear hk
    by_cases hj : j < p'
    · have hjs : j < s.size := by omega
      have d1 : decide ((j : Int) < (s.size : Int)) = true := by rw [decide_eq_true_iff]; omega
      have d2 : decide (j < s.size) = true := by simpa using hjs
      have hc := HBL.out j hjs hpj hj
      have d3 : ((s[j].toNat : Int) == 32) = true := by rw [hc]; rfl
      clear hc
      go_wp2_with fail
      go_roundg (gk - 1)
      case measure => have := HK.out; omega
      case rel => exact ⟨j + 1, by have := HK.out; omega, by omega, by go_num, rfl⟩
    · obtain rfl : j = p' := by have := HK.out; omega
      clear hj HBL HK
      have d1 : decide ((j : Int) < (s.size : Int)) = true := by rw [decide_eq_true_iff]; omega
      have d2 : decide (j < s.size) = true := by simpa using hps
      have d3 : ((s[j].toNat : Int) == 32) = false := v8_ne (n := 32) (by omega) (fun h => by rw [hsd] at h; exact hne32 h)
      have d4 : ((j : Int) == (s.size : Int)) = false := by rw [beq_eq_false_iff_ne]; omega
      have d5 : (j == s.size) = false := by rw [beq_eq_false_iff_ne]; omega
      clear hne32 hsd
      go_upto_region 12 with (first | (go_at_call 57; refine (HD.out _).mono ?_; rintro r w' ⟨rfl, rfl⟩) | (go_at_call 58; refine (HPV.out _ HR1.out).mono ?_; rintro r w1 ⟨rfl, hb1⟩; have e0 := hb1.block w.heap.size (by simp; omega); have e1 := hb1.block (w.heap.size + 1) (by simp); rw [heap_alloc2_old] at e0; rw [heap_alloc2_new] at e1; have hs1 := hb1.size; simp at hs1; have E0 := Lib.hid e0; have E1 := Lib.hid e1; clear e0 e1; have HB1 := Lib.hid hb1; clear hb1))
      obtain ⟨W2, hW2⟩ : ∃ y, w1.alloc (.cells #[.int .i64 vk, .int .i64 vn, .string vs] 42) = y := ⟨_, rfl⟩
      have q0 := (show W2.heap[w.heap.size]? = w1.heap[w.heap.size]? from by rw [← hW2, Below.heap_alloc _ _ _ (by omega)]).trans E0.out
      have q1 := (show W2.heap[w.heap.size + 1]? = w1.heap[w.heap.size + 1]? from by rw [← hW2, Below.heap_alloc _ _ _ (by omega)]).trans E1.out
      have q2 : W2.heap[w1.heap.size]? = some (.cells #[.int .i64 vk, .int .i64 vn, .string vs] 42 (0, 0)) := by rw [← hW2]; exact heap_alloc_new _ _
      have HB2 := Lib.hid (show Below w.heap.size w W2 from by rw [← hW2]; exact ((((Below.refl w.heap.size w).alloc (Nat.le_refl _) _).alloc (by simp) _).trans (HB1.out.mono (by simp; omega))).alloc (by omega) _)
      rw [hW2]
      clear hW2 HB1 E0 E1 HB0
      have c0 := cellAt (o := 0) q0 rfl
      have d10 := cellAt (o := 0) q1 rfl
      have f0 := frozenAt (o := 0) q0
      have g0 := frozenAt (o := 0) q1
      have c1 := cellAt (o := 1) q0 rfl
      have d11 := cellAt (o := 1) q1 rfl
      have f1 := frozenAt (o := 1) q0
      have g1 := frozenAt (o := 1) q1
      have c2 := cellAt (o := 2) q0 rfl
      have d12 := cellAt (o := 2) q1 rfl
      have f2 := frozenAt (o := 2) q0
      have g2 := frozenAt (o := 2) q1
      have c3 := cellAt (o := 3) q0 rfl
      have d13 := cellAt (o := 3) q1 rfl
      have f3 := frozenAt (o := 3) q0
      have g3 := frozenAt (o := 3) q1
      have c4 := cellAt (o := 4) q0 rfl
      have d14 := cellAt (o := 4) q1 rfl
      have f4 := frozenAt (o := 4) q0
      have g4 := frozenAt (o := 4) q1
      have c5 := cellAt (o := 5) q0 rfl
      have d15 := cellAt (o := 5) q1 rfl
      have f5 := frozenAt (o := 5) q0
      have g5 := frozenAt (o := 5) q1
      have c6 := cellAt (o := 6) q0 rfl
      have d16 := cellAt (o := 6) q1 rfl
      have f6 := frozenAt (o := 6) q0
      have g6 := frozenAt (o := 6) q1
      have x0 := cellAt (o := 0) q2 rfl
      have x1 := cellAt (o := 1) q2 rfl
      have x2 := cellAt (o := 2) q2 rfl
      have Q0 := Lib.hid q0
      clear q0 q1 q2
      go_region
      all_goals
        go_wp2_with fail
        refine bodyPost_ret (results_tok (a0 := .int .i64 1) (a1 := .int .i64 j) (a2 := .int .i64 ((j : Int) + pn)) (a3 := .string ⟨#[]⟩) (a4 := .int .i64 vk) (a5 := .int .i64 vn) (a6 := .string vs) (h := w.heap.size) (t := 63) (x := .int .i64 pe) (by rfl) (by rfl) ?_) (by rfl) ⟨rfl, ?_⟩
        · rw [heap_drew]
          refine set7 (x0 := .int .i64 0) (x1 := .int .i64 0) (x2 := .int .i64 0) (x3 := .string ⟨#[]⟩) (x4 := .int .i64 0) (x5 := .int .i64 0) (x6 := .string ⟨#[]⟩) ?_ _ _ _ _ _ _ _
          rw [heap_setCell_other _ _ _ _ (by show _ ≠ _; simp), heap_setCell_other _ _ _ _ (by show _ ≠ _; simp), heap_setCell_other _ _ _ _ (by show _ ≠ _; simp), heap_setCell_other _ _ _ _ (by show _ ≠ _; simp), heap_setCell_other _ _ _ _ (by show _ ≠ _; simp)]
          exact Q0.out
        · refine Below.drew ?_
          repeat (refine Below.setCell ?_ (by show _ ≤ _; simp) _)
          exact HB2.out


set_option maxRecDepth 100000 in
set_option maxHeartbeats 8000000 in
theorem next_none (s : ByteArray) (p p' : Nat) (hn : s.size ≤ 5000) (hpp : p ≤ p') (hp' : p' ≤ s.size) (hbl : ∀ (j : Nat) (h : j < s.size), p ≤ j → j < p' → s[j] = 32) (hps : p' < s.size) (hne : ∀ h : p' < s.size, s[p'] ≠ 32) (HT : ∀ h : p' < s.size, numD s[p'] = false ∧ s[p'] ≠ 34 ∧ letD s[p'] = false) (hsz : szL (s.data.toList.drop p') 19 = 0) (w : World) (hG : GlobE w) :
    Calls Tryz.prog 34 #[.string s, .int .i64 (p : Int)] w fun r w' => r = retTok 0 (p' : Int) (p' : Int) mtS V0 8 ∧ Below w.heap.size w w' := by
  have HBL := Lib.hid hbl
  have HG := Lib.hid hG
  clear hbl hG
  obtain ⟨d, hd⟩ : ∃ d, d = s.extract p' s.size := ⟨_, rfl⟩
  have hdl : d.data.toList = s.data.toList.drop p' := by rw [hd, ext_drop]
  have hds : d.size = s.size - p' := by
    show d.data.toList.length = _
    rw [hdl, List.length_drop]; rfl
  have hex : s.extract p' s.size = d := hd.symm
  have hz0 : 0 < d.size := by omega
  have hne32 : s[p'] ≠ 32 := hne hps
  have hsd : s[p'] = d[0] := by
    have h1 : d.data.toList[0]'(by exact hz0) = d[0] := rfl
    rw [← h1]
    simp only [hdl, List.getElem_drop]
    rfl
  obtain ⟨c, r, hcr⟩ : ∃ c r, d.data.toList = c :: r := by
    cases hq : d.data.toList with
    | nil => have : d.data.toList.length = 0 := by rw [hq]; rfl
             have : d.size = 0 := this
             omega
    | cons c r => exact ⟨c, r, rfl⟩
  have hd0 : d[0] = c := by
    have h1 : d.data.toList[0]'(by exact hz0) = d[0] := rfl
    rw [← h1]
    simp [hcr]
  rw [hd0] at hsd
  rw [hsd] at hne32
  have HT1 := HT hps
  rw [hsd] at HT1
  rw [← hdl, hcr] at hsz
  clear hd hdl hne HT
  have HSS := Lib.hid (fun wx hG => signSize_any d (by omega) wx hG)
  have HD := Lib.hid (dDigit_any c)
  have HL := Lib.hid (dLetter_any c)
  rw [HT1.1] at HD
  rw [HT1.2.2] at HL
  have b34 : ((c.toNat : Int) == 34) = false := v8_ne (n := 34) (by omega) HT1.2.1
  rw [hcr] at HSS
  clear HT1
  have HG2 := Lib.hid (show GlobE ((w.alloc (.cells #[.int .i64 0, .int .i64 0, .int .i64 0, .string ⟨#[]⟩, .int .i64 0, .int .i64 0, .string ⟨#[]⟩] 63)).alloc (.cells #[.int .i64 0, .int .i64 (p' : Int), .int .i64 (p' : Int), .string ⟨#[]⟩, .int .i64 0, .int .i64 0, .string ⟨#[]⟩] 63)) from HG.out.below (((Below.refl _ _).alloc (Nat.le_refl _) _).alloc (by simp) _))
  rw [hsz] at HSS
  clear hsz hcr

  have HB0 := Lib.hid ((Below.refl w.heap.size w).alloc (Nat.le_refl _) (.cells #[.int .i64 0, .int .i64 0, .int .i64 0, .string ⟨#[]⟩, .int .i64 0, .int .i64 0, .string ⟨#[]⟩] 63))
  go_enter Tryz.func34, Tryz.ntmps34
  go_wp2_with fail
  go_loopg [1] (p' - p) (fun q i wr => ∃ j : Nat, j + q = p' ∧ p ≤ j ∧ i = .int .i64 (j : Int) ∧ wr = w.alloc (.cells #[.int .i64 0, .int .i64 0, .int .i64 0, .string ⟨#[]⟩, .int .i64 0, .int .i64 0, .string ⟨#[]⟩] 63))
  case atStart => exact ⟨p, by omega, Nat.le_refl _, rfl, rfl⟩
  case round =>
    obtain ⟨j, hk, hpj, rfl, rfl⟩ := hrel
    have HK := Lib.hid hk
    clear hk
    by_cases hj : j < p'
    · have hjs : j < s.size := by omega
      have d1 : decide ((j : Int) < (s.size : Int)) = true := by rw [decide_eq_true_iff]; omega
      have d2 : decide (j < s.size) = true := by simpa using hjs
      have hc := HBL.out j hjs hpj hj
      have d3 : ((s[j].toNat : Int) == 32) = true := by rw [hc]; rfl
      clear hc
      go_wp2_with fail
      go_roundg (gk - 1)
      case measure => have := HK.out; omega
      case rel => exact ⟨j + 1, by have := HK.out; omega, by omega, by go_num, rfl⟩
    · obtain rfl : j = p' := by have := HK.out; omega
      clear hj HBL HK
      have d1 : decide ((j : Int) < (s.size : Int)) = true := by rw [decide_eq_true_iff]; omega
      have d2 : decide (j < s.size) = true := by simpa using hps
      have d3 : ((s[j].toNat : Int) == 32) = false := v8_ne (n := 32) (by omega) (fun h => by rw [hsd] at h; exact hne32 h)
      have d4 : ((j : Int) == (s.size : Int)) = false := by rw [beq_eq_false_iff_ne]; omega
      have d5 : (j == s.size) = false := by rw [beq_eq_false_iff_ne]; omega
      clear hne32 hsd
      go_wp2_with (first | (go_at_call 57; refine (HD.out _).mono ?_; rintro r w' ⟨rfl, rfl⟩) | (go_at_call 59; refine (HL.out _).mono ?_; rintro r w' ⟨rfl, rfl⟩) | (go_at_call 62; refine (HSS.out _ HG2.out).mono ?_; rintro r w' ⟨rfl, rfl⟩))
      exact bodyPost_ret (v := .tuple #[tokVal 0 (j : Int) (j : Int) mtS V0, .int .i64 8]) (by simp [results, Tryz.results34, go_sem]; rfl) rfl ⟨rfl, ((Below.refl _ w).alloc (Nat.le_refl _) _).alloc (by simp) _⟩


set_option maxRecDepth 100000 in
set_option maxHeartbeats 8000000 in
theorem next_sign (s : ByteArray) (p p' : Nat) (hn : s.size ≤ 5000) (hpp : p ≤ p') (hp' : p' ≤ s.size) (hbl : ∀ (j : Nat) (h : j < s.size), p ≤ j → j < p' → s[j] = 32) (hps : p' < s.size) (hne : ∀ h : p' < s.size, s[p'] ≠ 32) (HT : ∀ h : p' < s.size, numD s[p'] = false ∧ s[p'] ≠ 34 ∧ letD s[p'] = false) (n : Nat) (tx : List UInt8) (hsz : szL (s.data.toList.drop p') 19 = n) (h0 : 0 < n) (htx : (s.data.toList.drop p').take n = tx) (hnl : n ≤ (s.data.toList.drop p').length) (w : World) (hG : GlobE w) :
    Calls Tryz.prog 34 #[.string s, .int .i64 (p : Int)] w fun r w' => r = retTok 0 (p' : Int) ((p' : Int) + (n : Int)) ⟨tx.toArray⟩ V0 0 ∧ Below w.heap.size w w' := by
  have HBL := Lib.hid hbl
  have HG := Lib.hid hG
  clear hbl hG
  obtain ⟨d, hd⟩ : ∃ d, d = s.extract p' s.size := ⟨_, rfl⟩
  have hdl : d.data.toList = s.data.toList.drop p' := by rw [hd, ext_drop]
  have hds : d.size = s.size - p' := by
    show d.data.toList.length = _
    rw [hdl, List.length_drop]; rfl
  have hex : s.extract p' s.size = d := hd.symm
  have hz0 : 0 < d.size := by omega
  have hne32 : s[p'] ≠ 32 := hne hps
  have hsd : s[p'] = d[0] := by
    have h1 : d.data.toList[0]'(by exact hz0) = d[0] := rfl
    rw [← h1]
    simp only [hdl, List.getElem_drop]
    rfl
  obtain ⟨c, r, hcr⟩ : ∃ c r, d.data.toList = c :: r := by
    cases hq : d.data.toList with
    | nil => have : d.data.toList.length = 0 := by rw [hq]; rfl
             have : d.size = 0 := this
             omega
    | cons c r => exact ⟨c, r, rfl⟩
  have hd0 : d[0] = c := by
    have h1 : d.data.toList[0]'(by exact hz0) = d[0] := rfl
    rw [← h1]
    simp [hcr]
  rw [hd0] at hsd
  rw [hsd] at hne32
  have HT1 := HT hps
  rw [hsd] at HT1
  have hxt : d.extract 0 n = ⟨tx.toArray⟩ := by rw [ext_take, hdl, htx]
  have hnd : n ≤ d.size := by rw [hds, ← show s.data.toList.length = s.size from rfl, ← List.length_drop]; exact hnl
  rw [← hdl, hcr] at hsz
  clear hd hdl hne HT
  have HSS := Lib.hid (fun wx hG => signSize_any d (by omega) wx hG)
  have HD := Lib.hid (dDigit_any c)
  have HL := Lib.hid (dLetter_any c)
  rw [HT1.1] at HD
  rw [HT1.2.2] at HL
  have b34 : ((c.toNat : Int) == 34) = false := v8_ne (n := 34) (by omega) HT1.2.1
  rw [hcr] at HSS
  clear HT1
  have HG2 := Lib.hid (show GlobE ((w.alloc (.cells #[.int .i64 0, .int .i64 0, .int .i64 0, .string ⟨#[]⟩, .int .i64 0, .int .i64 0, .string ⟨#[]⟩] 63)).alloc (.cells #[.int .i64 0, .int .i64 (p' : Int), .int .i64 (p' : Int), .string ⟨#[]⟩, .int .i64 0, .int .i64 0, .string ⟨#[]⟩] 63)) from HG.out.below (((Below.refl _ _).alloc (Nat.le_refl _) _).alloc (by simp) _))
  rw [hsz] at HSS
  have b0 : ((n : Int) == 0) = false := by rw [beq_eq_false_iff_ne]; omega
  have b0' : (n == 0) = false := by rw [beq_eq_false_iff_ne]; omega
  clear hsz hcr htx hnl

  have HB0 := Lib.hid ((Below.refl w.heap.size w).alloc (Nat.le_refl _) (.cells #[.int .i64 0, .int .i64 0, .int .i64 0, .string ⟨#[]⟩, .int .i64 0, .int .i64 0, .string ⟨#[]⟩] 63))
  go_enter Tryz.func34, Tryz.ntmps34
  go_wp2_with fail
  go_loopg [1] (p' - p) (fun q i wr => ∃ j : Nat, j + q = p' ∧ p ≤ j ∧ i = .int .i64 (j : Int) ∧ wr = w.alloc (.cells #[.int .i64 0, .int .i64 0, .int .i64 0, .string ⟨#[]⟩, .int .i64 0, .int .i64 0, .string ⟨#[]⟩] 63))
  case atStart => exact ⟨p, by omega, Nat.le_refl _, rfl, rfl⟩
  case round =>
    obtain ⟨j, hk, hpj, rfl, rfl⟩ := hrel
    have HK := Lib.hid hk
    clear hk
    by_cases hj : j < p'
    · have hjs : j < s.size := by omega
      have d1 : decide ((j : Int) < (s.size : Int)) = true := by rw [decide_eq_true_iff]; omega
      have d2 : decide (j < s.size) = true := by simpa using hjs
      have hc := HBL.out j hjs hpj hj
      have d3 : ((s[j].toNat : Int) == 32) = true := by rw [hc]; rfl
      clear hc
      go_wp2_with fail
      go_roundg (gk - 1)
      case measure => have := HK.out; omega
      case rel => exact ⟨j + 1, by have := HK.out; omega, by omega, by go_num, rfl⟩
    · obtain rfl : j = p' := by have := HK.out; omega
      clear hj HBL HK
      have d1 : decide ((j : Int) < (s.size : Int)) = true := by rw [decide_eq_true_iff]; omega
      have d2 : decide (j < s.size) = true := by simpa using hps
      have d3 : ((s[j].toNat : Int) == 32) = false := v8_ne (n := 32) (by omega) (fun h => by rw [hsd] at h; exact hne32 h)
      have d4 : ((j : Int) == (s.size : Int)) = false := by rw [beq_eq_false_iff_ne]; omega
      have d5 : (j == s.size) = false := by rw [beq_eq_false_iff_ne]; omega
      clear hne32 hsd
      go_wp2_with (first | (go_at_call 57; refine (HD.out _).mono ?_; rintro r w' ⟨rfl, rfl⟩) | (go_at_call 59; refine (HL.out _).mono ?_; rintro r w' ⟨rfl, rfl⟩) | (go_at_call 62; refine (HSS.out _ HG2.out).mono ?_; rintro r w' ⟨rfl, rfl⟩))
      exact bodyPost_ret (v := .tuple #[tokVal 0 (j : Int) ((j : Int) + (n : Int)) ⟨tx.toArray⟩ V0, .int .i64 0]) (by simp [results, Tryz.results34, go_sem]; rfl) rfl ⟨rfl, ((Below.refl _ w).alloc (Nat.le_refl _) _).alloc (by simp) _⟩


set_option maxRecDepth 100000 in
set_option maxHeartbeats 8000000 in
theorem next_word (s : ByteArray) (p p' : Nat) (hn : s.size ≤ 5000) (hpp : p ≤ p') (hp' : p' ≤ s.size) (hbl : ∀ (j : Nat) (h : j < s.size), p ≤ j → j < p' → s[j] = 32) (hps : p' < s.size) (hne : ∀ h : p' < s.size, s[p'] ≠ 32) (HT : ∀ h : p' < s.size, numD s[p'] = false ∧ s[p'] ≠ 34 ∧ letD s[p'] = true) (w : World) (hG : GlobE w) :
    Calls Tryz.prog 34 #[.string s, .int .i64 (p : Int)] w fun r w' => r = retTok (wordK ⟨(wordOf (s.data.toList.drop p')).toArray⟩).1 (p' : Int) ((p' : Int) + ((wordOf (s.data.toList.drop p')).length : Int)) (wordK ⟨(wordOf (s.data.toList.drop p')).toArray⟩).2.1 (wordK ⟨(wordOf (s.data.toList.drop p')).toArray⟩).2.2.1 (wordK ⟨(wordOf (s.data.toList.drop p')).toArray⟩).2.2.2 ∧ Below w.heap.size w w' := by
  have HBL := Lib.hid hbl
  have HG := Lib.hid hG
  clear hbl hG
  obtain ⟨d, hd⟩ : ∃ d, d = s.extract p' s.size := ⟨_, rfl⟩
  have hdl : d.data.toList = s.data.toList.drop p' := by rw [hd, ext_drop]
  have hds : d.size = s.size - p' := by
    show d.data.toList.length = _
    rw [hdl, List.length_drop]; rfl
  have hex : s.extract p' s.size = d := hd.symm
  have hz0 : 0 < d.size := by omega
  have hne32 : s[p'] ≠ 32 := hne hps
  have hsd : s[p'] = d[0] := by
    have h1 : d.data.toList[0]'(by exact hz0) = d[0] := rfl
    rw [← h1]
    simp only [hdl, List.getElem_drop]
    rfl
  obtain ⟨c, r, hcr⟩ : ∃ c r, d.data.toList = c :: r := by
    cases hq : d.data.toList with
    | nil => have : d.data.toList.length = 0 := by rw [hq]; rfl
             have : d.size = 0 := this
             omega
    | cons c r => exact ⟨c, r, rfl⟩
  have hd0 : d[0] = c := by
    have h1 : d.data.toList[0]'(by exact hz0) = d[0] := rfl
    rw [← h1]
    simp [hcr]
  rw [hd0] at hsd
  rw [hsd] at hne32
  have HT1 := HT hps
  rw [hsd] at HT1
  rw [← hdl, hcr]
  clear hd hdl hne HT
  have HWS := Lib.hid (fun wx => wordSize_any d (by omega) wx)
  have HD := Lib.hid (dDigit_any c)
  have HL := Lib.hid (dLetter_any c)
  rw [HT1.1] at HD
  rw [HT1.2.2] at HL
  have b34 : ((c.toNat : Int) == 34) = false := v8_ne (n := 34) (by omega) HT1.2.1
  have hwl : (wordOf d.data.toList).length ≤ d.size := by
    show _ ≤ d.data.toList.length
    unfold wordOf
    exact takeWhile_le _ _
  have hxt : d.extract 0 (wordOf d.data.toList).length = ⟨(wordOf d.data.toList).toArray⟩ := by
    rw [ext_take]
    congr 2
    unfold wordOf
    have := List.takeWhile_append_dropWhile (p := wordB) (l := d.data.toList)
    conv => lhs; arg 2; rw [← this]
    exact List.take_left
  have hws : (⟨(wordOf d.data.toList).toArray⟩ : ByteArray).size = (wordOf d.data.toList).length := by simp [ByteArray.size]
  rw [hcr] at HWS hwl hxt hws
  clear HT1 hcr
  generalize wordOf (c :: r) = wl at *
  obtain ⟨m, hm⟩ : ∃ m, m = (⟨wl.toArray⟩ : ByteArray) := ⟨_, rfl⟩
  rw [← hm] at hxt hws ⊢
  clear hm
  generalize wl.length = n at *
  have HWd := Lib.hid (fun wx => dWord_any m p' (by rw [hws]; omega) (by omega) wx)
  rw [hws] at HWd
  generalize hk : wordK m = wk at *
  obtain ⟨wk1, wk2, ⟨wk3, wk4, wk5⟩, wk6⟩ := wk
  simp only [tokVal] at HWd ⊢

  have HB0 := Lib.hid ((Below.refl w.heap.size w).alloc (Nat.le_refl _) (.cells #[.int .i64 0, .int .i64 0, .int .i64 0, .string ⟨#[]⟩, .int .i64 0, .int .i64 0, .string ⟨#[]⟩] 63))
  go_enter Tryz.func34, Tryz.ntmps34
  go_wp2_with fail
  go_loopg [1] (p' - p) (fun q i wr => ∃ j : Nat, j + q = p' ∧ p ≤ j ∧ i = .int .i64 (j : Int) ∧ wr = w.alloc (.cells #[.int .i64 0, .int .i64 0, .int .i64 0, .string ⟨#[]⟩, .int .i64 0, .int .i64 0, .string ⟨#[]⟩] 63))
  case atStart => exact ⟨p, by omega, Nat.le_refl _, rfl, rfl⟩
  case round =>
    obtain ⟨j, hk, hpj, rfl, rfl⟩ := hrel
    have HK := Lib.hid hk
    clear hk
    by_cases hj : j < p'
    · have hjs : j < s.size := by omega
      have d1 : decide ((j : Int) < (s.size : Int)) = true := by rw [decide_eq_true_iff]; omega
      have d2 : decide (j < s.size) = true := by simpa using hjs
      have hc := HBL.out j hjs hpj hj
      have d3 : ((s[j].toNat : Int) == 32) = true := by rw [hc]; rfl
      clear hc
      go_wp2_with fail
      go_roundg (gk - 1)
      case measure => have := HK.out; omega
      case rel => exact ⟨j + 1, by have := HK.out; omega, by omega, by go_num, rfl⟩
    · obtain rfl : j = p' := by have := HK.out; omega
      clear hj HBL HK
      have d1 : decide ((j : Int) < (s.size : Int)) = true := by rw [decide_eq_true_iff]; omega
      have d2 : decide (j < s.size) = true := by simpa using hps
      have d3 : ((s[j].toNat : Int) == 32) = false := v8_ne (n := 32) (by omega) (fun h => by rw [hsd] at h; exact hne32 h)
      have d4 : ((j : Int) == (s.size : Int)) = false := by rw [beq_eq_false_iff_ne]; omega
      have d5 : (j == s.size) = false := by rw [beq_eq_false_iff_ne]; omega
      clear hne32 hsd
      go_upto_region 15 with (first | (go_at_call 57; refine (HD.out _).mono ?_; rintro r w' ⟨rfl, rfl⟩) | (go_at_call 59; refine (HL.out _).mono ?_; rintro r w' ⟨rfl, rfl⟩))
      go_region_with ((first | (go_at_call 61; refine (HWS.out _).mono ?_; rintro r w' ⟨rfl, rfl⟩) | (go_at_call 60; refine (HWd.out _).mono ?_; rintro r w1 ⟨rfl, hb1⟩; have e0 := hb1.block w.heap.size (by simp; omega); rw [heap_drew, heap_alloc2_old] at e0; have c0 := cellAt (o := 0) e0 rfl; have f10 := frozenAt (o := 0) e0; have c1 := cellAt (o := 1) e0 rfl; have f11 := frozenAt (o := 1) e0; have c2 := cellAt (o := 2) e0 rfl; have f12 := frozenAt (o := 2) e0; have c3 := cellAt (o := 3) e0 rfl; have f13 := frozenAt (o := 3) e0; have c4 := cellAt (o := 4) e0 rfl; have f14 := frozenAt (o := 4) e0; have c5 := cellAt (o := 5) e0 rfl; have f15 := frozenAt (o := 5) e0; have c6 := cellAt (o := 6) e0 rfl; have f16 := frozenAt (o := 6) e0; have E0 := Lib.hid e0; have hs1 := hb1.size; simp at hs1; have HB1 := Lib.hid hb1; clear hb1 e0)))
      all_goals
        go_wp2_with fail
        refine bodyPost_ret (results_tok (a0 := .int .i64 wk1) (a1 := .int .i64 j) (a2 := .int .i64 ((j : Int) + (n : Int))) (a3 := .string wk2) (a4 := .int .i64 wk3) (a5 := .int .i64 wk4) (a6 := .string wk5) (h := w.heap.size) (t := 63) (x := .int .i64 wk6) (by rfl) (by rfl) ?_) (by rfl) ⟨rfl, ?_⟩
        · try rw [heap_drew]
          refine set7 (x0 := .int .i64 0) (x1 := .int .i64 0) (x2 := .int .i64 0) (x3 := .string ⟨#[]⟩) (x4 := .int .i64 0) (x5 := .int .i64 0) (x6 := .string ⟨#[]⟩) ?_ _ _ _ _ _ _ _
          exact E0.out
        · repeat (refine Below.setCell ?_ (by show _ ≤ _; simp) _)
          exact (((Below.refl w.heap.size w).alloc (Nat.le_refl _) _).alloc (by simp) _).drew.trans (HB1.out.mono (by simp; omega))


/-! ### all of it -/
/-- What next tells of the bytes at its token. -/
def NextIs (l : List UInt8) (p' : Nat) (k z : Int) (tx : ByteArray) (v : V) (e : Int) : Prop :=
  (l = [] ∧ k = 3 ∧ e = 0) ∨ ∃ c r, l = c :: r ∧ c ≠ 32 ∧ ((∃ t n, tokAt l = .inl (t, n) ∧ TokIs t k tx v ∧ z = (p' : Int) + (n : Int) ∧ e = 0 ∧ n ≤ l.length) ∨ tokAt l = .inr e)
theorem next_any (s : ByteArray) (p : Nat) (hn : s.size ≤ 5000) (hp : p ≤ s.size) (w : World) (hG : GlobE w) :
    Calls Tryz.prog 34 #[.string s, .int .i64 (p : Int)] w fun r w' => ∃ (p' : Nat) (k z : Int) (tx : ByteArray) (v : V) (e : Int), r = retTok k p' z tx v e ∧ Below w.heap.size w w' ∧ p ≤ p' ∧ p' ≤ s.size ∧ s.data.toList.drop p = List.replicate (p' - p) 32 ++ s.data.toList.drop p' ∧ NextIs (s.data.toList.drop p') p' k z tx v e := by
  obtain ⟨l, hl⟩ : ∃ l, l = s.data.toList.drop p := ⟨_, rfl⟩
  have hll : l.length = s.size - p := by rw [hl, List.length_drop]; rfl
  obtain ⟨nb, hnb⟩ : ∃ nb, nb = (l.takeWhile (· == 32)).length := ⟨_, rfl⟩
  have hnl : nb ≤ l.length := by rw [hnb]; exact takeWhile_le _ _
  have hget : ∀ (j : Nat) (h : j < s.size) (hj : p ≤ j), s[j] = l[j - p]'(by omega) := fun j h hj => by
    subst hl
    simp only [List.getElem_drop]
    have : p + (j - p) = j := by omega
    simp only [this]
    rfl
  have hbl : ∀ (j : Nat) (h : j < s.size), p ≤ j → j < p + nb → s[j] = 32 := fun j h h1 h2 => by
    rw [hget j h h1]
    obtain ⟨_, h3⟩ := tw_at (· == 32) l (j - p) (by rw [← hnb]; omega)
    simpa using h3
  have hne : ∀ h : p + nb < s.size, s[p + nb] ≠ 32 := fun h => by
    rw [hget _ h (by omega)]
    have h3 := tw_end (· == 32) l (by rw [← hnb]; omega)
    have e : p + nb - p = (l.takeWhile (· == 32)).length := by omega
    simp only [e]
    simpa using h3
  have hsplit : l = List.replicate nb 32 ++ s.data.toList.drop (p + nb) := by
    have h1 := List.takeWhile_append_dropWhile (p := (· == (32 : UInt8))) (l := l)
    have h2 : l.takeWhile (· == 32) = List.replicate nb 32 := by
      rw [List.eq_replicate_iff]
      exact ⟨hnb.symm, fun x hx => by simpa using mem_takeWhile _ _ _ hx⟩
    have h3 : s.data.toList.drop (p + nb) = l.drop nb := by rw [hl, List.drop_drop]
    rw [h3, ← h2, hnb]
    conv => lhs; rw [← List.take_append_drop (l.takeWhile (· == 32)).length l]
    congr 1
    conv => lhs; arg 2; rw [← h1]
    exact List.take_left
  have hfix : p + nb - p = nb := by omega
  have hpn : p + nb ≤ s.size := by omega
  by_cases he : p + nb = s.size
  · refine (next_end s p (p + nb) hn (by omega) hpn hbl he w hG).mono ?_
    rintro r w' ⟨rfl, hb⟩
    refine ⟨p + nb, _, _, _, _, _, rfl, hb, by omega, hpn, by rw [hfix, ← hl]; exact hsplit, .inl ⟨?_, rfl, rfl⟩⟩
    exact List.drop_of_length_le (by show s.size ≤ p + nb; omega)
  · have hps : p + nb < s.size := by omega
    obtain ⟨c, r0, hcr⟩ : ∃ c r, s.data.toList.drop (p + nb) = c :: r := by
      cases hq : s.data.toList.drop (p + nb) with
      | nil => have : (s.data.toList.drop (p + nb)).length = 0 := by rw [hq]; rfl
               rw [List.length_drop] at this
               have : s.size - (p + nb) = 0 := this
               omega
      | cons c r => exact ⟨c, r, rfl⟩
    have hc : s[p + nb] = c := by
      have h1 : (s.data.toList.drop (p + nb))[0]'(by rw [hcr]; simp) = s[p + nb] := by simp only [List.getElem_drop]; rfl
      rw [← h1]
      simp [hcr]
    have hc32 : c ≠ 32 := hc ▸ hne hps
    have hdl : (c :: r0).length ≤ s.size := by rw [← hcr, List.length_drop]; exact Nat.sub_le _ _
    by_cases hd : numD c = true
    · refine (next_digit s p (p + nb) hn (by omega) hpn hbl hps hne (fun _ => by rw [hc]; exact hd) w hG).mono ?_
      rintro r w' ⟨rfl, hb⟩
      refine ⟨p + nb, _, _, _, _, _, rfl, hb, by omega, hpn, by rw [hfix, ← hl]; exact hsplit, .inr ⟨c, r0, hcr, hc32, ?_⟩⟩
      have hn2 := parseV_n (c :: r0)
      rw [hcr]
      have ht : tokAt (c :: r0) = if (parseV (c :: r0)).2.2 = 0 then .inl (.lit (parseV (c :: r0)).1, (parseV (c :: r0)).2.1) else .inr (parseV (c :: r0)).2.2 := by
        show (if isNum c = true ∨ c = 34 then _ else _) = _
        rw [if_pos (.inl hd)]
      rw [ht]
      by_cases h0 : (parseV (c :: r0)).2.2 = 0
      · rw [if_pos h0]
        exact .inl ⟨_, _, rfl, ⟨rfl, rfl, rfl⟩, rfl, h0, hn2⟩
      · rw [if_neg h0]
        exact .inr rfl
    · have hd' : numD c = false := by simpa using hd
      by_cases hq : c = 34
      · refine (next_quote s p (p + nb) hn (by omega) hpn hbl hps hne (fun _ => by rw [hc]; exact ⟨hd', hq⟩) w hG).mono ?_
        rintro r w' ⟨rfl, hb⟩
        refine ⟨p + nb, _, _, _, _, _, rfl, hb, by omega, hpn, by rw [hfix, ← hl]; exact hsplit, .inr ⟨c, r0, hcr, hc32, ?_⟩⟩
        have hn2 := parseV_n (c :: r0)
        rw [hcr]
        have ht : tokAt (c :: r0) = if (parseV (c :: r0)).2.2 = 0 then .inl (.lit (parseV (c :: r0)).1, (parseV (c :: r0)).2.1) else .inr (parseV (c :: r0)).2.2 := by
          show (if isNum c = true ∨ c = 34 then _ else _) = _
          rw [if_pos (.inr hq)]
        rw [ht]
        by_cases h0 : (parseV (c :: r0)).2.2 = 0
        · rw [if_pos h0]
          exact .inl ⟨_, _, rfl, ⟨rfl, rfl, rfl⟩, rfl, h0, hn2⟩
        · rw [if_neg h0]
          exact .inr rfl
      · by_cases hle : letD c = true
        · refine (next_word s p (p + nb) hn (by omega) hpn hbl hps hne (fun _ => by rw [hc]; exact ⟨hd', hq, hle⟩) w hG).mono ?_
          rintro r w' ⟨rfl, hb⟩
          refine ⟨p + nb, _, _, _, _, _, rfl, hb, by omega, hpn, by rw [hfix, ← hl]; exact hsplit, .inr ⟨c, r0, hcr, hc32, ?_⟩⟩
          rw [hcr]
          rcases word_tok (r := r0) hle with ⟨t, h1, h2, h3⟩ | ⟨h1, h2⟩
          · exact .inl ⟨t, _, h1, h2, rfl, h3, takeWhile_le _ _⟩
          · exact .inr (by rw [h1, h2])
        · have hle' : letD c = false := by simpa using hle
          have ht : tokAt (c :: r0) = match signAt (c :: r0) with | some (k, n) => .inl (.sg k, n) | none => .inr 8 := by
            show (if isNum c = true ∨ c = 34 then _ else if letB c = true then _ else _) = _
            rw [if_neg (by rintro (h | h); exact hd h; exact hq h), if_neg (show ¬ letB c = true from hle)]
            cases signAt (c :: r0) <;> rfl
          have hz := sz_cons c r0
          cases hsg : signAt (c :: r0) with
          | none =>
            rw [hsg] at hz ht
            refine (next_none s p (p + nb) hn (by omega) hpn hbl hps hne (fun _ => by rw [hc]; exact ⟨hd', hq, hle'⟩) (by rw [hcr]; exact hz) w hG).mono ?_
            rintro r w' ⟨rfl, hb⟩
            refine ⟨p + nb, _, _, _, _, _, rfl, hb, by omega, hpn, by rw [hfix, ← hl]; exact hsplit, .inr ⟨c, r0, hcr, hc32, .inr ?_⟩⟩
            rw [hcr]
            exact ht
          | some kn =>
            obtain ⟨k, n⟩ := kn
            rw [hsg] at hz ht
            obtain ⟨g1, g2, g3⟩ := sign_take hsg
            refine (next_sign s p (p + nb) hn (by omega) hpn hbl hps hne (fun _ => by rw [hc]; exact ⟨hd', hq, hle'⟩) n (signT k) (by rw [hcr]; exact hz) (sign_len hsg) (by rw [hcr]; exact g1) (by rw [hcr]; exact g3) w hG).mono ?_
            rintro r w' ⟨rfl, hb⟩
            refine ⟨p + nb, _, _, _, _, _, rfl, hb, by omega, hpn, by rw [hfix, ← hl]; exact hsplit, .inr ⟨c, r0, hcr, hc32, .inl ⟨.sg k, n, ?_, ⟨rfl, rfl, rfl, g2⟩, rfl, rfl, ?_⟩⟩⟩
            · rw [hcr]
              exact ht
            · rw [hcr]
              exact g3
end Go.Proofs.YtfpjepeikjfkpaaGreatDoor
