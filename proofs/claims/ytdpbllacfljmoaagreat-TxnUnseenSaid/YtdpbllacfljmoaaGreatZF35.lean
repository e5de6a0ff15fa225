import Derived.Test.YtdpbllacfljmoaaGreatZF34
import Derived.Test.YtdpbllacfljmoaaGreatZF31
import Derived.Test.YtdpbllacfljmoaaGreatZF28
import Derived.Test.YtdpbllacfljmoaaGreatZF12
import Derived.Deep.DeepCutAuto
import Derived.Test.YtdpbllacfljmoaaGreatZF03
import Derived.Deep.LoopGhost
import Derived.Test.YtdpbllacfljmoaaGreatZF33
import Derived.Test.YtdpbllacfljmoaaGreatZF09
set_option maxRecDepth 100000
set_option maxHeartbeats 16000000
set_option linter.unusedVariables false
namespace Go.Proofs.YtdpbllacfljmoaaGreat
open Go.RowKit
def q3p (n m : Int) : Bool := decide (1 ≤ n) && decide (n ≤ m)
theorem q9Z (n m : Int) (w : World) : Calls Tryz.prog 54 #[.int .i64 n, .int .i64 m] w fun e w' => e = .returned (.bool (q3p n m)) ∧ w' = w := by
 unfold q3p
 by_cases h : 1 ≤ n
 ·have d : decide (1 ≤ n) = true := by simpa using h
  rw [d, Bool.true_and]
  go_enter Tryz.func54, Tryz.ntmps54
  go_wp2
  go_ret
  exact ⟨rfl, rfl⟩
 ·have d : decide (1 ≤ n) = false := by simpa using h
  rw [d, Bool.false_and]
  go_enter Tryz.func54, Tryz.ntmps54
  go_wp2
  go_ret
  exact ⟨rfl, rfl⟩
theorem qae (L : LimT) : MayT L = (MayS L.s && q3p L.marks 1048576 && q3p L.recs 1048576 && q3p L.live 64) := by
 unfold MayT q3p
 cases MayS L.s <;> simp [Bool.and_assoc]
open Classical in
noncomputable def qaf (p B : Nat) (F : Nat → Prop) : q0o := fun k => if k = p then 1 else if k = B then 2 else if F k then 3 else 0
theorem q6v {p B : Nat} {F : Nat → Prop} {k : Nat} (h : qaf p B F k ≠ 0) : k = p ∨ k = B ∨ F k := by
 unfold qaf at h
 by_cases h1 : k = p
 ·exact .inl h1
 ·by_cases h2 : k = B
  ·exact .inr (.inl h2)
  ·by_cases h3 : F k
   ·exact .inr (.inr h3)
   ·rw [if_neg h1, if_neg h2, if_neg h3] at h
    exact absurd rfl h
theorem qdK {p B : Nat} {F : Nat → Prop} (hp : ¬ F p) (hB : ¬ F B) : stoR (qaf p B F) = F := funext fun k => propext (by
 unfold stoR qaf
 by_cases h1 : k = p
 ·rw [if_pos h1, h1]; exact ⟨fun e => absurd e (by omega), fun q => absurd q hp⟩
 ·rw [if_neg h1]
  by_cases h2 : k = B
  ·rw [if_pos h2, h2]; exact ⟨fun e => absurd e (by omega), fun q => absurd q hB⟩
  ·rw [if_neg h2]
   by_cases h3 : F k
   ·rw [if_pos h3]; exact ⟨fun _ => h3, fun _ => rfl⟩
   ·rw [if_neg h3]; exact ⟨fun e => absurd e (by omega), fun q => absurd q h3⟩)
theorem qgn {w : World} {o p B ps : Nat} {F : Nat → Prop} {L : LimT} (hb : w.heap[p]? = some (.cells (boxB L ps B 0 0 (.slice none 0 0) (.slice none 0 0)) 92 (0, 0))) (hl : MapK intK w B fun _ => none) (hs : StD w ps F L.s ⟨0, []⟩)
  (hF : ∀ k, F k → o ≤ k) (hp : o ≤ p) (hB : o ≤ B) (hpB : p ≠ B) (hFp : ¬ F p) (hFB : ¬ F B) : RawB w o p (qaf p B F) L q2Z ps B (fun _ => ⟨0, 0, none, 0, fun _ => (none, 0)⟩) (.slice none 0 0) (.slice none 0 0) where
 box := hb
 live := hl
 store := by rw [qdK hFp hFB]; exact hs
 txs := fun t ht => by cases ht
 recs := ⟨[], rfl, OwnG.none_ _ _ _ _ _, by simp, fun g hg => by cases hg⟩
 hist := ⟨[], rfl, OwnG.none_ _ _ _ _ _, by simp, fun g hg => by cases hg⟩
 rp := if_pos rfl
 rB := by unfold qaf; rw [if_neg (fun e => hpB e.symm), if_pos rfl]
 lo := fun k hk => by
  rcases q6v hk with e | e | e
  ·subst e; exact ⟨hp, q00 hb⟩
  ·subst e; exact ⟨hB, hl.lt⟩
  ·exact ⟨hF k e, q1Y.upto hs k e⟩
theorem qc0 {L : LimT} (hm : MayT L = true) : OkTx L (fitN L.marks) q2Z := qb3 (q3E hm).1 (by have := (q3E hm).2.2.2.2.2.1; omega)
theorem qcT (L : LimT) (o : Nat) (w : World) (ho : o ≤ w.heap.size) (h1 : I64 L.s.keys) (h2 : I64 L.s.vers) (h3 : I64 L.s.byts) (h4 : L.s.last < 18446744073709551616) :
  Calls Tryz.prog 14 #[limT L] w fun r w' => Below w.heap.size w w' ∧
   (if MayT L = true then ∃ p F, r = .returned (.tuple #[ptrS p, .int .i64 0]) ∧ StT o w' p F L q2Z ∧ ∀ k, F k → w.heap.size ≤ k else r = .returned (.tuple #[.pointer none, .int .i64 1])) := by
 have HMt := qh (qae L)
 obtain ⟨R, hR⟩ : ∃ R : Ending → World → Prop, ∀ r w', R r w' ↔ (Below w.heap.size w w' ∧ (if MayT L = true then ∃ p F, r = .returned (.tuple #[ptrS p, .int .i64 0]) ∧ StT o w' p F L q2Z ∧ ∀ k, F k → w.heap.size ≤ k else r = .returned (.tuple #[.pointer none, .int .i64 1]))) := ⟨_, fun _ _ => Iff.rfl⟩
 suffices hh : Calls Tryz.prog 14 #[limT L] w R from hh.mono fun r w' q => (hR r w').1 q
 have HR := qh hR
 clear hR
 obtain ⟨w1, hw1⟩ : ∃ y, w.alloc (.cells #[.int .i64 L.s.keys, .int .i64 L.s.vers, .int .i64 L.s.byts, .int .i64 L.marks, .int .i64 L.recs, .int .i64 L.live, .int .u64 L.s.last] 24) = y := ⟨_, rfl⟩
 have hb1 : Below w.heap.size w w1 := by rw [← hw1]; exact (Below.refl _ w).alloc (Nat.le_refl _) _
 have hx1 : w1.heap[w.heap.size]? = some (.cells #[.int .i64 L.s.keys, .int .i64 L.s.vers, .int .i64 L.s.byts, .int .i64 L.marks, .int .i64 L.recs, .int .i64 L.live, .int .u64 L.s.last] 24 (0, 0)) := by rw [← hw1]; exact heap_alloc_new w _
 have HNew := qh (q1Y.new L.s L.marks L.recs L.live w1 h1 h2 h3 h4)
 have HW := qh q9Z
 have HB1 := qh hb1
 have HX1 := qh hx1
 have HW1 := qh hw1
 have HO := qh ho
 clear hb1 h1 h2 h3 h4 ho hw1
 have seven : ∀ W : World, Below w1.heap.size w1 W → W.cell? ⟨w.heap.size, 0, none⟩ = some (.int .i64 L.s.keys) ∧ W.cell? ⟨w.heap.size, 1, none⟩ = some (.int .i64 L.s.vers) ∧ W.cell? ⟨w.heap.size, 2, none⟩ = some (.int .i64 L.s.byts) ∧ W.cell? ⟨w.heap.size, 3, none⟩ = some (.int .i64 L.marks) ∧ W.cell? ⟨w.heap.size, 4, none⟩ = some (.int .i64 L.recs) ∧ W.cell? ⟨w.heap.size, 5, none⟩ = some (.int .i64 L.live) ∧ W.cell? ⟨w.heap.size, 6, none⟩ = some (.int .u64 L.s.last) := fun W hb => by
  have hx := q01 hx1 hb (q00 hx1)
  refine ⟨?_, ?_, ?_, ?_, ?_, ?_, ?_⟩ <;> rw [cell_of_row W _ _ _ _ _ hx] <;> rfl
 have HSv := qh seven
 clear seven hx1
 obtain ⟨z0, z1, z2, z3, z4, z5, z6⟩ := HSv.out _ (Below.refl _ _)
 unfold limT q3B
 unfold q3B at HNew
 go_enter Tryz.func14, Tryz.ntmps14
 go_upto_region 1 with fail
 rw [HW1.out]
 go_wp2_with fail
 refine HNew.out.mono ?_
 rintro e w2 ⟨hb2, hif⟩
 clear HNew z0 z1 z2 z3 z4 z5 z6
 obtain ⟨z0, z1, z2, z3, z4, z5, z6⟩ := HSv.out _ hb2
 have HB2 := qh (HB1.out.trans (hb2.mono HB1.out.size))
 have HS2 := qh (show w.heap.size ≤ w1.heap.size from HB1.out.size)
 clear hb2
 cases hms : MayS L.s with
 | false =>
  rw [hms] at hif HMt
  simp only [Bool.false_eq_true, if_false, Bool.false_and] at hif HMt
  subst hif
  go_wp2
  refine (HR.out _ _).2 ?_
  rw [HMt.out]
  exact ⟨HB2.out, by simp⟩
 | true =>
  rw [hms] at hif HMt
  simp only [if_true, Bool.true_and] at hif HMt
  obtain ⟨ps, F, rfl, hst, hF⟩ := hif
  have HSt := qh hst
  have HF := qh hF
  clear hst hF hms
  go_wp2_with fail
  refine (HW.out L.marks 1048576 w2).mono ?_
  rintro e w' ⟨rfl, rfl⟩
  cases hq1 : q3p L.marks 1048576 with
  | false =>
   rw [hq1] at HMt
   simp only [Bool.false_and] at HMt
   go_wp2
   refine (HR.out _ _).2 ?_
   rw [HMt.out]
   exact ⟨HB2.out, by simp⟩
  | true =>
   rw [hq1] at HMt
   simp only [Bool.true_and] at HMt
   go_wp2_with fail
   refine (HW.out L.recs 1048576 w').mono ?_
   rintro e w2 ⟨rfl, rfl⟩
   cases hq2 : q3p L.recs 1048576 with
   | false =>
    rw [hq2] at HMt
    simp only [Bool.false_and] at HMt
    go_wp2
    refine (HR.out _ _).2 ?_
    rw [HMt.out]
    exact ⟨HB2.out, by simp⟩
   | true =>
    rw [hq2] at HMt
    simp only [Bool.true_and] at HMt
    go_wp2_with fail
    refine (HW.out L.live 64 w2).mono ?_
    rintro e w' ⟨rfl, rfl⟩
    cases hq3 : q3p L.live 64 with
    | false =>
     rw [hq3] at HMt
     go_wp2
     refine (HR.out _ _).2 ?_
     rw [HMt.out]
     exact ⟨HB2.out, by simp⟩
    | true =>
     rw [hq3] at HMt
     have hmm := @run_makeMap Tryz.prog
     unfold ptrS
     go_wp2
     refine (HR.out _ _).2 ?_
     rw [HMt.out]
     have hb4 := (HB2.out.alloc HB2.out.size (.map #[] 0)).alloc (by have := HB2.out.size; simp; omega) (.cells (boxB L ps w'.heap.size 0 0 (.slice none 0 0) (.slice none 0 0)) 92)
     have hbw : Below w'.heap.size w' ((w'.alloc (.map #[] 0)).alloc (.cells (boxB L ps w'.heap.size 0 0 (.slice none 0 0) (.slice none 0 0)) 92)) := ((Below.refl _ w').alloc (Nat.le_refl _) _).alloc (by simp) _
     have hsz := HB2.out.size
     have ho := HO.out
     refine ⟨hb4, w'.heap.size + 1, ownR (qaf (w'.heap.size + 1) w'.heap.size F), rfl, ⟨_, ps, w'.heap.size, _, _, _, rfl, qgn (q23 w' _ _) ((MapK.made intK w').keep (((Below.refl _ (w'.alloc (.map #[] 0))).alloc (Nat.le_refl _) _).block _ (by simp))) (q1Y.keep HSt.out fun k hk => hbw.block k (q1Y.upto HSt.out k hk)) (fun k hk => by have := HF.out k hk; have := HS2.out; omega) (by omega) (by omega) (by omega) (fun q => by have := q1Y.upto HSt.out _ q; omega) (fun q => by have := q1Y.upto HSt.out _ q; omega), qc0 HMt.out, List.Pairwise.nil, HMt.out⟩, fun k hk => ?_⟩
     rcases q6v hk with e | e | e
     ·omega
     ·omega
     ·have := HF.out k e; have := HS2.out; omega
open Go.RowKit
theorem qcQ (a b : List Sp) (A B : Option Addr) (c d : Nat) (w : World) (ha : okI a) (hb : okI b) (hca : ChI w w.heap.size A c a) (hcb : ChI w w.heap.size B d b) :
    Calls Tryz.prog 192 #[.slice A a.length c, .slice B b.length d] w fun r w' => r = .returned (.bool (q28 a b)) ∧ Below w.heap.size w w' := by
  rw [← qdF]
  have H1 := qh (q4y a A c w ha hca)
  have HCB := qh hcb
  have HOB := qh hb
  have HNP := qh (q1L a)
  have HNR := qh (q1L b)
  have hpl : (q0a a).length ≤ 1000 := Nat.le_trans (q1u a) ha
  have hrl : (q0a b).length ≤ 1000 := Nat.le_trans (q1u b) hb
  have H2 := qh (fun (W : World) (h : ChI W W.heap.size B d b) => q4y b B d W hb h)
  clear hca hcb ha hb
  generalize q0a a = P at *
  generalize q0a b = R at *
  go_enter Tryz.func192, Tryz.ntmps192
  go_wp2_with fail
  go_step3
  go_wp2_with fail
  refine H1.out.mono ?_
  rintro r w1 ⟨A1, c1, rfl, h1, hb1⟩
  have HC1 := qh h1
  have HB1 := qh hb1
  have HT := qh (H2.out w1 (HCB.out.below hb1 (Nat.le_refl _) hb1.size))
  clear h1 hb1 H1 H2
  go_wp2_with fail
  refine HT.out.mono ?_
  rintro r w2 ⟨A2, c2, rfl, h2, hb2⟩
  have HC2 := qh h2
  have HCP := qh (HC1.out.below hb2 (Nat.le_refl _) hb2.size)
  have HB2 := qh (HB1.out.trans (hb2.mono HB1.out.size))
  clear h2 hb2 HT HC1 HB1
  go_wp2_with fail
  go_step3
  go_wp2_with fail
  go_loopg [5, 7, 14] P.length (fun q vn _ vi wr => ∃ j n : Nat, j + q = P.length ∧ vi = .int .i64 j ∧ vn = .int .i64 n ∧ n ≤ R.length ∧ q43 P R j n ∧ Below w2.heap.size w2 wr)
  case atStart => exact ⟨0, 0, by omega, rfl, rfl, Nat.zero_le _, qcY _ _, Below.refl _ _⟩
  case round =>
    obtain ⟨j, n0, hk, rfl, rfl, hn0, hd, hb⟩ := hrel
    obtain ⟨wo, hwo⟩ : ∃ y, y = wr := ⟨_, rfl⟩
    subst hwo
    obtain ⟨g0, hg0⟩ : ∃ y, y = gk := ⟨_, rfl⟩
    subst hg0
    have HK := qh hk
    have HD := qh hd
    have HB := qh hb
    clear hd hb hk
    by_cases hj : j < P.length
    · have hlt : decide ((j : Int) < (P.length : Int)) = true := by simpa using hj
      have hlt3 : decide (j < P.length) = true := by simpa using hj
      obtain ⟨bb, o, rfl, _, c0, c1⟩ := (HCP.out.below HB.out (Nat.le_refl _) (Nat.le_refl _)).at_ hj
      have HPj := qh (fun (n : Nat) (hn : n < R.length) (hD : q43 P R j n) => And.intro (qa2 HNR.out hD hj hn) (And.intro (qa3 HNP.out HNR.out hD hj hn) (fun h => qdH (List.getElem_mem hj) (List.getElem_mem hn) h)))
      generalize P[j] = x at *
      obtain ⟨xl, xh⟩ := x
      simp only at c0 c1
      obtain ⟨wt, hwt⟩ : ∃ y, wo.alloc (.cells #[.string (bs xl), .string (bs xh)] 131) = y := ⟨_, rfl⟩
      have hbt : Below w2.heap.size w2 wt := by rw [← hwt]; exact HB.out.alloc HB.out.size _
      have hnt : wt.heap[wo.heap.size]? = some (.cells #[.string (bs xl), .string (bs xh)] 131 (0, 0)) := by rw [← hwt]; exact heap_alloc_new wo _
      have HBt := qh hbt
      have HNt := qh hnt
      have HWt := qh hwt
      clear hbt hnt hwt
      go_upto_region 6 with fail
      rw [HWt.out]
      clear HWt c0 c1
      go_loopg [5] (R.length - n0) (fun q vn wr => ∃ n : Nat, n + q = R.length ∧ vn = .int .i64 n ∧ q43 P R j n ∧ Below wt.heap.size wt wr)
      case atStart => exact ⟨n0, by omega, rfl, HD.out, Below.refl _ _⟩
      case round =>
        obtain ⟨n, hk, rfl, hd, hb⟩ := hrel
        obtain ⟨ws, hws⟩ : ∃ y, y = wr := ⟨_, rfl⟩
        subst hws
        have HK2 := qh hk
        have HD2 := qh hd
        have HB2s := qh hb
        clear hd hb hk
        by_cases hn : n < R.length
        · have hlt4 : decide ((n : Int) < (R.length : Int)) = true := by simpa using hn
          have hlt5 : decide (n < R.length) = true := by simpa using hn
          obtain ⟨h1, h2, h3⟩ := HPj.out n hn HD2.out
          obtain ⟨bc, oc, rfl, hbc, d0, d1⟩ := (HC2.out.below (HBt.out.trans (HB2s.out.mono HBt.out.size)) (Nat.le_refl _) (Nat.le_refl _)).at_ hn
          generalize R[n] = y at *
          obtain ⟨yl, yh⟩ := y
          simp only at d0 d1 h1 h2 h3
          have hbox := q01 HNt.out HB2s.out (q00 HNt.out)
          have hbc2 : bc < ws.heap.size := Nat.lt_of_lt_of_le hbc (HBt.out.trans (HB2s.out.mono HBt.out.size)).size
          have HCl := qh (fun (W : World) (h : Below ws.heap.size ws W) => And.intro (cell_of_row W wo.heap.size 0 _ _ _ (q01 hbox h (q00 hbox))) (And.intro (cell_of_row W wo.heap.size 1 _ _ _ (q01 hbox h (q00 hbox))) (And.intro ((h.cell (p := ⟨bc, oc + n * 2, none⟩) hbc2).trans d0) ((h.cell (p := ⟨bc, oc + n * 2 + 1, none⟩) hbc2).trans d1))))
          have hMe := fun (W : World) (h : Below ws.heap.size ws W) => (q75 ⟨xl, xh⟩ ⟨yl, yh⟩ W).mono fun r w' (q : r = .returned (.bool (q2y ⟨xl, xh⟩ ⟨yl, yh⟩)) ∧ Below W.heap.size W w') => (⟨q.1, h.trans (q.2.mono h.size)⟩ : r = .returned (.bool (q2y ⟨xl, xh⟩ ⟨yl, yh⟩)) ∧ Below ws.heap.size ws w')
          unfold q0T at hMe
          simp only at hMe
          clear hbox hbc hbc2 d0 d1
          cases hm : q2y ⟨xl, xh⟩ ⟨yl, yh⟩ with
          | true =>
            rw [hm] at hMe
            have HMe := qh hMe
            have HF := qh (h3 hm)
            clear hm hMe h1 h2 h3
            go_wp2_with fail
            refine q04 (C := fun W => Below ws.heap.size ws W) (by kernel_rfl) (by kernel_rfl) ((Below.refl _ _).drew) ?_
            repeat (
              refine no_implicit_lambda% (wpQuiet_step ?_)
              intro K hK
              go_simp
              first
              | (refine no_implicit_lambda% (hK _ ?_); clear hK K)
              | (apply Exists.intro
                 refine ⟨fun _ => ?_, hK _ ?_⟩
                 (first
                   | (intro hw; with_reducible exact HMe.out _ hw)
                   | (intro hw; obtain ⟨z0, z1, z2, z3⟩ := HCl.out _ hw; go_simp; with_reducible exact ⟨rfl, rfl⟩)
                   | (intro hw; obtain ⟨z0, z1, z2, z3⟩ := HCl.out _ hw; go_simp; with_reducible rfl)
                   | (intro _; with_reducible rfl)
                   | (intro hw; go_simp; with_reducible exact ⟨rfl, rfl⟩))
                 clear hK K))
            refine wpQuiet_nil ?_
            intro w8 hb8
            have HB8 := qh (HB2.out.trans ((HBt.out.trans ((HB2s.out.trans (hb8.mono HB2s.out.size)).mono HBt.out.size)).mono HB2.out.size))
            clear hb8
            go_wp2_with fail
            rw [Exit.noGoto_ret]
            go_ret
            rw [HF.out]
            exact ⟨rfl, HB8.out⟩
          | false =>
            rw [hm] at hMe
            have HMe := qh hMe
            have H1 := qh h1
            have H2 := qh (fun he => h2 he hm)
            clear hm hMe h1 h2 h3
            go_wp2_with fail
            refine q04 (C := fun W => Below ws.heap.size ws W) (by kernel_rfl) (by kernel_rfl) ((Below.refl _ _).drew) ?_
            repeat (
              refine no_implicit_lambda% (wpQuiet_step ?_)
              intro K hK
              go_simp
              first
              | (refine no_implicit_lambda% (hK _ ?_); clear hK K)
              | (apply Exists.intro
                 refine ⟨fun _ => ?_, hK _ ?_⟩
                 (first
                   | (intro hw; with_reducible exact HMe.out _ hw)
                   | (intro hw; obtain ⟨z0, z1, z2, z3⟩ := HCl.out _ hw; go_simp; with_reducible exact ⟨rfl, rfl⟩)
                   | (intro hw; obtain ⟨z0, z1, z2, z3⟩ := HCl.out _ hw; go_simp; with_reducible rfl)
                   | (intro _; with_reducible rfl)
                   | (intro hw; go_simp; with_reducible exact ⟨rfl, rfl⟩))
                 clear hK K))
            refine wpQuiet_nil ?_
            intro w8 hb8
            have HB8 := qh hb8
            clear hb8
            go_upto_region 10 with fail
            have hAh := fun (W : World) (h : Below ws.heap.size ws W) => (q2d yl xh W).mono fun r w' (q : r = .returned (.bool (endS xh yl)) ∧ W = w') => (⟨q.1, q.2 ▸ h⟩ : r = .returned (.bool (endS xh yl)) ∧ Below ws.heap.size ws w')
            cases he : endS xh yl with
            | true =>
              rw [he] at hAh
              have HAh := qh hAh
              have HN := qh (H2.out he)
              clear he hAh H1 H2
              refine q04 (C := fun W => Below ws.heap.size ws W) (by kernel_rfl) (by kernel_rfl) (HB8.out.drew) ?_
              repeat (
                refine no_implicit_lambda% (wpQuiet_step ?_)
                intro K hK
                go_simp
                first
                | (refine no_implicit_lambda% (hK _ ?_); clear hK K)
                | (apply Exists.intro
                   refine ⟨fun _ => ?_, hK _ ?_⟩
                   (first
                     | (intro hw; with_reducible exact HAh.out _ hw)
                     | (intro hw; obtain ⟨z0, z1, z2, z3⟩ := HCl.out _ hw; go_simp; with_reducible exact ⟨rfl, rfl⟩)
                     | (intro hw; obtain ⟨z0, z1, z2, z3⟩ := HCl.out _ hw; go_simp; with_reducible rfl)
                     | (intro _; with_reducible rfl)
                     | (intro hw; go_simp; with_reducible exact ⟨rfl, rfl⟩))
                   clear hK K))
              refine wpQuiet_nil ?_
              intro w9 hb9
              have HB9 := qh (HB2s.out.trans (hb9.mono HB2s.out.size))
              clear hb9
              go_wp2_with fail
              go_roundg (gk - 1)
              case measure => have := HK2.out; omega
              case rel => exact ⟨n + 1, by have := HK2.out; omega, by go_num, HN.out, HB9.out⟩
            | false =>
              rw [he] at hAh
              have HAh := qh hAh
              have HN := qh (H1.out he)
              clear he hAh H1 H2
              refine q04 (C := fun W => Below ws.heap.size ws W) (by kernel_rfl) (by kernel_rfl) (HB8.out.drew) ?_
              repeat (
                refine no_implicit_lambda% (wpQuiet_step ?_)
                intro K hK
                go_simp
                first
                | (refine no_implicit_lambda% (hK _ ?_); clear hK K)
                | (apply Exists.intro
                   refine ⟨fun _ => ?_, hK _ ?_⟩
                   (first
                     | (intro hw; with_reducible exact HAh.out _ hw)
                     | (intro hw; obtain ⟨z0, z1, z2, z3⟩ := HCl.out _ hw; go_simp; with_reducible exact ⟨rfl, rfl⟩)
                     | (intro hw; obtain ⟨z0, z1, z2, z3⟩ := HCl.out _ hw; go_simp; with_reducible rfl)
                     | (intro _; with_reducible rfl)
                     | (intro hw; go_simp; with_reducible exact ⟨rfl, rfl⟩))
                   clear hK K))
              refine wpQuiet_nil ?_
              intro w9 hb9
              have HB9 := qh (HBt.out.trans ((HB2s.out.trans (hb9.mono HB2s.out.size)).mono HBt.out.size))
              clear hb9
              go_wp2_with fail
              go_roundg (g0 - 1)
              case measure => have := HK.out; omega
              case rel => exact ⟨j + 1, n, by have := HK.out; omega, by go_num, rfl, by omega, HN.out, HB9.out⟩
        · have hlt4 : decide ((n : Int) < (R.length : Int)) = false := by simpa using hn
          have hlt5 : decide (n < R.length) = false := by simpa using hn
          have HF := qh (qgE (by omega) HD2.out)
          have HB9 := qh (HB2.out.trans ((HBt.out.trans (HB2s.out.mono HBt.out.size)).mono HB2.out.size))
          clear hn
          go_wp2_with fail
          rw [Exit.noGoto_ret]
          go_ret
          rw [HF.out]
          exact ⟨rfl, HB9.out⟩
    · have hlt : decide ((j : Int) < (P.length : Int)) = false := by simpa using hj
      have hlt2 : decide (j < P.length) = false := by simpa using hj
      have HF := qh (qgD (by omega) HD.out)
      clear hj
      go_wp2_with fail
      rw [Exit.noGoto_ret]
      go_ret
      rw [HF.out]
      exact ⟨rfl, HB2.out.trans (HB.out.mono HB2.out.size)⟩
open Go.RowKit
theorem qap : q9u where
 point := q3Q
 right := q2I
 has := qcK
 meets := q75
 normal := fun l A c w hl h => q69 l A c w (by unfold okI at hl; omega) h.2.2.2
 meet := qcQ
 add := fun a s A c w ha h => qaI a s A c w ha h
 join := fun a b A B c d w ha hb h1 h2 => qcL a b A B c d w ha hb h1 h2
 fit := fun a A c n w ha h1 h2 h => qeU a A c n w ha h1 h2 h
open Go.RowKit
open Go.RowKit
theorem qbJ {l : List RecS} {low j : Nat} (hj : j < l.length) (h : low < (l[j]'hj).last) : q0c (l.take (j + 1)) low = q0c (l.take j) low ++ [l[j]'hj] := by rw [q6h hj, if_pos h]
theorem qdc {l : List RecS} {low j : Nat} (hj : j < l.length) (h : ¬ low < (l[j]'hj).last) : q0c (l.take (j + 1)) low = q0c (l.take j) low := by rw [q6h hj, if_neg h, List.append_nil]
theorem q6i (l : List RecS) (low j : Nat) : (q0c (l.take j) low).length ≤ l.length := Nat.le_trans (q54 _ _) (by rw [List.length_take]; omega)
open Go.RowKit
theorem q5o (l : List RecS) (A : Option Addr) (c low : Nat) (w : World) (hl : okRs l) (hlow : low < 18446744073709551616) (h : ChR w w.heap.size A c l) :
  Calls Tryz.prog 137 #[.slice A l.length c, .int .u64 low] w (q4p (q0c l low) w) := by
 have HR := qh h
 have HO := qh hl
 have hll := h.len
 clear h hl
 go_enter Tryz.func137, Tryz.ntmps137
 go_wp2
 go_loopg [5, 10] l.length (fun q v i wr => ∃ (j : Nat) (ms : List MR) (v' : Value), j + q = l.length ∧ i = .int .i64 j ∧ v' = v ∧ OwnG 86 6 q0d wr w.heap.size v' ms ∧ ms.map MR.r = q0c (l.take j) low ∧ (∀ x ∈ ms, FrMR wr w.heap.size wr.heap.size x ∧ ApMR wr v x) ∧ Below w.heap.size w wr)
 case atStart => exact ⟨0, [], _, by omega, rfl, rfl, OwnG.none_ _ _ _ _ _, rfl, by simp, Below.refl _ _⟩
 case round =>
  obtain ⟨j, ms, v, hk, rfl, rfl, ho, hm, hok, hb⟩ := hrel
  obtain ⟨wo, hwo⟩ : ∃ y, y = wr := ⟨_, rfl⟩
  subst hwo
  have HK := qh hk
  have HOw := qh ho
  have HM := qh hm
  have HOk := qh hok
  have HB := qh hb
  have hml : ms.length ≤ 1000 := by
   have := q6i l low j
   have := HO.out.1
   have e := congrArg List.length hm
   rw [List.length_map] at e
   omega
  clear hk ho hm hok hb
  by_cases hj : j < l.length
  ·have hlt : decide ((j : Int) < (l.length : Int)) = true := by simpa using hj
   have hlt3 : decide (j < l.length) = true := by simpa using hj
   obtain ⟨b, o, rfl, hbl, x, hx, hokx, p0, p1, p2, p3, p4, p5⟩ := HR.out.2.2.2.at_ hj
   have c0 := (HB.out.cell (p := ⟨b, o + j * 6, none⟩) hbl).trans p0
   have c1 := (HB.out.cell (p := ⟨b, o + j * 6 + 1, none⟩) hbl).trans p1
   have c2 := (HB.out.cell (p := ⟨b, o + j * 6 + 2, none⟩) hbl).trans p2
   have c3 := (HB.out.cell (p := ⟨b, o + j * 6 + 3, none⟩) hbl).trans p3
   have c4 := (HB.out.cell (p := ⟨b, o + j * 6 + 4, none⟩) hbl).trans p4
   have c5 := (HB.out.cell (p := ⟨b, o + j * 6 + 5, none⟩) hbl).trans p5
   clear p0 p1 p2 p3 p4 p5
   have hox : okR x.r := by rw [hx]; exact HO.out.mem (List.getElem_mem hj)
   have HY := qh (fun h : low < x.r.last => (qbJ hj (by rw [← hx]; exact h)).trans (by rw [← hx]))
   have HNo := qh (fun h : ¬ low < x.r.last => qdc hj (by rw [← hx]; exact h))
   have HOkx := qh hokx
   have HOx := qh hox
   clear hx hokx hox
   have hla := HOkx.out.last
   obtain ⟨⟨xf, xl, xb, xo, xr, xw⟩, xA, xc, xB, xd⟩ := x
   simp only at c0 c1 c2 c3 c4 c5 HY HNo HOkx HOx hla
   obtain ⟨wt, hwt⟩ : ∃ y, wo.alloc (.cells #[.int .u64 xf, .int .u64 xl, .int .u64 xb, .int .u64 xo, .slice xA xr.length xc, .slice xB xw.length xd] 86) = y := ⟨_, rfl⟩
   have hbt : Below wo.heap.size wo wt := by rw [← hwt]; exact (Below.refl _ wo).alloc (Nat.le_refl _) _
   have hxt : wt.heap[wo.heap.size]? = some (.cells #[.int .u64 xf, .int .u64 xl, .int .u64 xb, .int .u64 xo, .slice xA xr.length xc, .slice xB xw.length xd] 86 (0, 0)) := by rw [← hwt]; exact heap_alloc_new wo _
   have HWt := qh hwt
   have HBt := qh hbt
   have HXt := qh hxt
   clear hwt hbt hxt
   go_upto_region 5 with fail
   rw [HWt.out]
   clear HWt c0 c1 c2 c3 c4 c5
   obtain ⟨z0, z1, z2, z3, z4, z5⟩ := q0O HXt.out
   by_cases hq : low < xl
   ·have d1 : decide ((low : Int) < (xl : Int)) = true := by rw [decide_eq_true_iff]; omega
    have d2 : decide (low < xl) = true := by rw [decide_eq_true_iff]; omega
    have HF := qh (HY.out hq)
    clear hq HY HNo
    have hown := q8s ⟨⟨xf, xl, xb, xo, xr, xw⟩, xA, xc, xB, xd⟩ wt HOx.out (HOkx.out.below (HB.out.trans (HBt.out.mono HB.out.size)) (Nat.le_refl _) (Nat.le_trans HB.out.size HBt.out.size))
    unfold q0u at hown
    simp only at hown
    have HOwn := qh hown
    clear hown
    go_wp2_with fail
    refine HOwn.out.mono ?_
    rintro r w2 ⟨y, hy, rfl, hf2, hb2⟩
    clear z0 z1 z2 z3 z4 z5 HOwn
    have HB2 := qh (HBt.out.trans (hb2.mono HBt.out.size))
    have HF2 := qh hf2
    have HYr := qh hy
    have HW2 := qh (show wo.heap.size ≤ wt.heap.size from HBt.out.size)
    clear hf2 hb2 hy
    unfold q0u
    have hbz : Below wo.heap.size wo (w2.alloc (.cells #[.int .u64 y.r.first, .int .u64 y.r.last, .int .u64 y.r.began, .int .u64 y.r.out, .slice y.A y.r.reads.length y.c, .slice y.B y.r.writes.length y.d] 86)) := HB2.out.alloc HB2.out.size _
    have HB3 := qh hbz
    have HO3 := qh (HOw.out.below hbz)
    clear hbz
    go_wp2_with (at_builtin; refine q9x _ rfl _ _ rfl w.heap.size v ms rfl HO3.out y w2.heap.size rfl (heap_alloc_new w2 _) (by omega) (by have := HB.out.size; have := HB3.out.size; omega) ?_; intro v9 w9 ho9 hg9 hv9; have HO9 := qh ho9; have HG9 := qh hg9; have HV9 := qh hv9; clear ho9 hg9 hv9)
    go_roundg (gk - 1)
    case measure => have := HK.out; omega
    case rel =>
     have hvl : ∀ g, v.ownBlock = some g → g < wo.heap.size ∧ w.heap.size ≤ g := fun g hg => ⟨(HOw.out.lt g hg).2, (HOw.out.lt g hg).1⟩
     refine ⟨j + 1, ms ++ [y], v9, by have := HK.out; omega, by go_num, rfl, HO9.out, ?_, ?_, ?_⟩
     ·rw [List.map_append, HM.out, HF.out, List.map_cons, List.map_nil, HYr.out]
     ·intro u hu
      rcases List.mem_append.1 hu with hu | hu
      ·have q1 := (HOk.out u hu).1.below HB3.out (Nat.le_refl _) (Nat.le_refl _) HB3.out.size
       have q2 := (HOk.out u hu).2.below HB3.out
       exact ⟨q1.grown q2 HG9.out, q2.grown HG9.out HV9.out⟩
      ·rw [List.mem_singleton] at hu
       subst hu
       have hap : ApMR w2 v u := HF2.out.apart (fun g hg => by have := (hvl g hg).1; have := HW2.out; omega)
       have hal := (Below.refl w2.heap.size w2).alloc (Nat.le_refl _) (.cells #[.int .u64 u.r.first, .int .u64 u.r.last, .int .u64 u.r.began, .int .u64 u.r.out, .slice u.A u.r.reads.length u.c, .slice u.B u.r.writes.length u.d] 86)
       have q1 := HF2.out.below hal (Nat.le_refl _) (show w.heap.size ≤ _ by have := HB.out.size; have := HW2.out; omega) hal.size
       have q2 := hap.below hal
       exact ⟨q1.grown q2 HG9.out, q2.grown HG9.out HV9.out⟩
     ·exact (HB.out.trans (HB3.out.mono HB.out.size)).grown HG9.out (Nat.le_trans HB.out.size HB3.out.size) (fun k hk => (hvl k hk).2)
   ·have d1 : decide ((low : Int) < (xl : Int)) = false := by rw [decide_eq_false_iff_not]; omega
    have d2 : decide (low < xl) = false := by rw [decide_eq_false_iff_not]; omega
    have HF := qh (HNo.out hq)
    clear hq HY HNo
    go_wp2_with fail
    go_roundg (gk - 1)
    case measure => have := HK.out; omega
    case rel => exact ⟨j + 1, ms, v, by have := HK.out; omega, by go_num, rfl, HOw.out.below HBt.out, by rw [HF.out]; exact HM.out, fun u hu => ⟨(HOk.out u hu).1.below HBt.out (Nat.le_refl _) (Nat.le_refl _) HBt.out.size, (HOk.out u hu).2.below HBt.out⟩, HB.out.trans (HBt.out.mono HB.out.size)⟩
  ·have hj' : j = l.length := by have := HK.out; omega
   have hlt : decide ((j : Int) < (l.length : Int)) = false := by simpa using hj
   have HFin := qh (show ms.map MR.r = q0c l low from by have h := HM.out; rwa [hj', List.take_length] at h)
   clear hj'
   go_wp2_with fail
   go_ret
   exact ⟨v, ms, rfl, HFin.out, HOw.out, HOk.out, HB.out⟩
theorem q8q (l : List RecS) (A : Option Addr) (c low : Nat) (w : World) (hl : okRs l) (hlow : low < 18446744073709551616) (h : ChR w w.heap.size A c l) :
  Calls Tryz.prog 137 #[.slice A l.length c, .int .u64 low] w (q89 (q0c l low) w) := (q5o l A c low w hl hlow h).mono fun _ _ h => h.retRec
theorem q8D {J : List Sp → List Sp → List Sp} {n : Nat} : ∀ (k : Nat) (a : RecS) (rest : List RecS), k ≤ rest.length → rest.length + 1 = max n 1 + k → fitR J n (a :: rest) = (rest.take k).foldl (q2B J) a :: rest.drop k
 | 0, a, rest, _, h => by rw [q3R (by simp; omega)]; rfl
 | k + 1, a, [], h, _ => by simp at h
 | k + 1, a, b :: rest, h, h2 => by
  rw [qd6 (by simp at h2; omega), q8D k _ rest (by simpa using h) (by simp at h2; omega)]
  rfl
theorem q8I (n : Int) : ∀ (l : List RecS) (a : RecS), (l.foldl (q2B (jI n)) a).reads.length + (l.foldl (q2B (jI n)) a).writes.length ≤ q0C (a :: l)
 | [], a => by simp [q0C]
 | b :: l, a => by
  have h1 := q8I n l (q2B (jI n) a b)
  have h2 := q8Y (qgK n) a b l
  exact Nat.le_trans h1 h2
theorem qdC (a : RecS) (l : List RecS) : q0C (a :: l) = a.reads.length + a.writes.length + q0C l := by simp [q0C]
theorem q6r (l m : List RecS) : q0C (l ++ m) = q0C l + q0C m := by simp [q0C]
theorem qdD (l : List RecS) (j : Nat) : q0C (l.take j) ≤ q0C l := by
 have h := q6r (l.take j) (l.drop j)
 rw [List.take_append_drop] at h
 omega
theorem qda (n : Int) {a : RecS} {rest : List RecS} {j : Nat} (hj : j < rest.length) : ((rest.take j).foldl (q2B (jI n)) a).reads.length + (rest[j]'hj).reads.length + (((rest.take j).foldl (q2B (jI n)) a).writes.length + (rest[j]'hj).writes.length) ≤ q0C (a :: rest) := by
 have h1 := q8I n (rest.take j) a
 have h2 := qdD rest (j + 1)
 rw [List.take_succ_eq_append_getElem hj, q6r] at h2
 have h3 : q0C [rest[j]'hj] = (rest[j]'hj).reads.length + (rest[j]'hj).writes.length := by simp [q0C]
 rw [qdC] at h1 ⊢
 omega
theorem qdb {J : List Sp → List Sp → List Sp} {a : RecS} {rest : List RecS} {j : Nat} (hj : j < rest.length) : (rest.take (j + 1)).foldl (q2B J) a = q2B J ((rest.take j).foldl (q2B J) a) (rest[j]'hj) := by
 rw [List.take_succ_eq_append_getElem hj, List.foldl_append]
 rfl
theorem qf0 (n : Int) : max n.toNat 1 = fitN n := by unfold fitN; omega
end Go.Proofs.YtdpbllacfljmoaaGreat
