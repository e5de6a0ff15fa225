import Derived.Test.YtfdiidhilonkoaaZC44
import Derived.Test.YtfdiidhilonkoaaZC25
import Derived.Lib.MinMax
set_option linter.unusedVariables false
/-
  Package span, as it landed: Add, Join, normal, Fit.
-/
namespace Go.Proofs.Ytfdiidhilonkoaa
open Go.RowKit

/-- A slice that reads as l, in a block from lo on and below hi. -/
def ChF (w : World) (lo hi : Nat) (A : Option Addr) (c : Nat) (l : List Sp) : Prop := l.length ≤ c ∧ c ≤ maxLen ∧ (A = none → c = 0) ∧ RowG spCells w lo hi A l
section
variable {w w' : World} {lo hi lo' hi' B : Nat} {A : Option Addr} {c : Nat} {l : List Sp}
theorem ChF.ch (h : ChF w lo hi A c l) : ChI w hi A c l := ⟨h.1, h.2.1, h.2.2.1, h.2.2.2.wide (Nat.zero_le _) (Nat.le_refl _)⟩
theorem ChF.below (h : ChF w lo hi A c l) (hb : Below B w w') (hB : hi ≤ B) (hh : hi ≤ hi') : ChF w' lo hi' A c l := ⟨h.1, h.2.1, h.2.2.1, (h.2.2.2.below hb hB).wide (Nat.le_refl _) hh⟩
theorem ChF.lower (h : ChF w lo hi A c l) (hl : lo' ≤ lo) : ChF w lo' hi A c l := ⟨h.1, h.2.1, h.2.2.1, h.2.2.2.wide hl (Nat.le_refl _)⟩
theorem OwnG.chF {e : TypeId} {v : Value} (h : OwnG e 2 spCells w lo v l) : ∃ A c, v = .slice A l.length c ∧ ChF w lo w.heap.size A c l := by
  obtain ⟨A, c, rfl, k1, k2, k3, k4⟩ := h.form
  exact ⟨A, c, rfl, k1, k2, k3, k4⟩
end
/-- A call told a slice that reads as m, in memory that it has made. -/
def RetF (m : List Sp) (w : World) (r : Ending) (w' : World) : Prop := ∃ A c, r = .returned (.slice A m.length c) ∧ ChF w' w.heap.size w'.heap.size A c m ∧ Below w.heap.size w w'
theorem RetF.retI {m : List Sp} {w w' : World} {r : Ending} (h : RetF m w r w') : RetI m w r w' := by
  obtain ⟨A, c, e, h1, h2⟩ := h
  exact ⟨A, c, e, h1.ch, h2⟩
theorem chL_two {w : World} {g : Nat} {x y : ML} {e : TypeId} (h : w.heap[g]? = some (.cells #[.slice x.A x.l.length x.c, .slice y.A y.l.length y.c] e (0, 0))) (hx : ChI w w.heap.size x.A x.c x.l) (hy : ChI w w.heap.size y.A y.c y.l) : ChL w w.heap.size (some ⟨g, 0, none⟩) [x, y] :=
  ⟨(RowG.block h (fun j u hu => by simpa [flatG, mlCells] using hu)).wide (Nat.zero_le _) (lt_of_heap h), fun z hz => by
    rw [List.mem_cons, List.mem_singleton] at hz
    rcases hz with rfl | rfl
    · exact hx
    · exact hy⟩
theorem chL_one {w : World} {g : Nat} {x : ML} {e : TypeId} (h : w.heap[g]? = some (.cells #[.slice x.A x.l.length x.c] e (0, 0))) (hx : ChI w w.heap.size x.A x.c x.l) : ChL w w.heap.size (some ⟨g, 0, none⟩) [x] :=
  ⟨(RowG.block h (fun j u hu => by simpa [flatG, mlCells] using hu)).wide (Nat.zero_le _) (lt_of_heap h), fun z hz => by
    rw [List.mem_singleton] at hz
    rcases hz with rfl
    exact hx⟩
theorem allL_two (x y : ML) : allL [x, y] = x.l ++ y.l := by simp [allL]
theorem allL_one (x : ML) : allL [x] = x.l := by simp [allL]
set_option maxRecDepth 100000 in
set_option maxHeartbeats 2000000 in
theorem dUnite_one (a : List Sp) (A : Option Addr) (c : Nat) (w : World) (ha : okI a) (hca : ChI w w.heap.size A c a) :
    Calls Try.prog 47 #[.slice (some ⟨w.heap.size, 0, none⟩) 1 1] (w.alloc (.cells #[.slice A a.length c] 27)) fun e w' => ∃ v, e = .returned v ∧ OwnG 52 2 spCells w' (w.heap.size + 1) v (joinSp a) ∧ Below w.heap.size w w' := by
  have hb1 : Below w.heap.size w (w.alloc (.cells #[.slice A a.length c] 27)) := (Below.refl _ w).alloc (Nat.le_refl _) _
  have hx1 := heap_alloc_new w (.cells #[.slice A a.length c] 27)
  have hu := dUnited_any [⟨A, c, a⟩] (some ⟨w.heap.size, 0, none⟩) 1 _ (by simp) (by rw [allL_one]; unfold okI at ha; simp only; omega) (chL_one hx1 (hca.below hb1 (Nat.le_refl _) hb1.size))
  rw [allL_one] at hu
  exact hu.mono fun _ _ ⟨v, e, ho, hb⟩ => ⟨v, e, by rw [show w.heap.size + 1 = (w.alloc (.cells #[.slice A a.length c] 27)).heap.size by simp]; exact ho, hb1.trans (hb.mono hb1.size)⟩
set_option maxRecDepth 100000 in
set_option maxHeartbeats 2000000 in
theorem dNormalOf_any (a : List Sp) (A : Option Addr) (c : Nat) (w : World) (ha : okI a) (hca : ChI w w.heap.size A c a) :
    Calls Try.prog 39 #[.slice A a.length c] w (RetI (joinSp a) w) := by
  have HN := Lib.hid (dNormal_any a A c w (by unfold okI at ha; omega) hca.2.2.2)
  have HC := Lib.hid hca
  cases hq : normB a with
  | true =>
    rw [hq] at HN
    have HE := Lib.hid (show joinSp a = a from (join_eq (normB_iff.1 hq) fun _ => rfl).symm)
    clear hca hq
    go_enter Try.func39, Try.ntmps39
    go_wp2_with fail
    refine HN.out.mono ?_
    rintro r w1 ⟨rfl, hb1⟩
    have HB1 := Lib.hid hb1
    clear hb1
    go_wp2_with fail
    go_ret
    exact ⟨A, c, by rw [HE.out]; rfl, by rw [HE.out]; exact HC.out.below HB1.out (Nat.le_refl _) HB1.out.size, HB1.out⟩
  | false =>
    rw [hq] at HN
    clear hca hq
    go_enter Try.func39, Try.ntmps39
    go_wp2_with fail
    refine HN.out.mono ?_
    rintro r w1 ⟨rfl, hb1⟩
    have HU := Lib.hid (dUnite_one a A c w1 ha (HC.out.below hb1 (Nat.le_refl _) hb1.size))
    have HB1 := Lib.hid hb1
    clear hb1
    go_wp2_with fail
    refine HU.out.mono ?_
    rintro r w2 ⟨v, rfl, ho, hb2⟩
    obtain ⟨A9, c9, rfl, hc9⟩ := ho.chI
    have HC9 := Lib.hid hc9
    have HB2 := Lib.hid (HB1.out.trans (hb2.mono HB1.out.size))
    clear ho hc9 hb2
    go_wp2_with fail
    go_ret
    exact ⟨A9, c9, rfl, HC9.out, HB2.out⟩
end Go.Proofs.Ytfdiidhilonkoaa

/-
  Package span, as it landed: Meet; all that the statements ask of it.
-/
namespace Go.Proofs.Ytfdiidhilonkoaa
open Go.RowKit

set_option maxRecDepth 100000 in
set_option maxHeartbeats 8000000 in
theorem dMeet_any (a b : List Sp) (A B : Option Addr) (c d : Nat) (w : World) (ha : okI a) (hb : okI b) (hca : ChI w w.heap.size A c a) (hcb : ChI w w.heap.size B d b) :
    Calls Try.prog 28 #[.slice A a.length c, .slice B b.length d] w fun r w' => r = .returned (.bool (meetB a b)) ∧ Below w.heap.size w w' := by
  rw [← meet_join]
  have H1 := Lib.hid (dNormalOf_any a A c w ha hca)
  have HCB := Lib.hid hcb
  have HOB := Lib.hid hb
  have HNP := Lib.hid (join_norm a)
  have HNR := Lib.hid (join_norm b)
  have hpl : (joinSp a).length ≤ 1000 := Nat.le_trans (join_len a) ha
  have hrl : (joinSp b).length ≤ 1000 := Nat.le_trans (join_len b) hb
  have H2 := Lib.hid (fun (W : World) (h : ChI W W.heap.size B d b) => dNormalOf_any b B d W hb h)
  clear hca hcb ha hb
  generalize joinSp a = P at *
  generalize joinSp b = R at *
  go_enter Try.func28, Try.ntmps28
  go_wp2_with fail
  go_step3
  go_wp2_with fail
  refine H1.out.mono ?_
  rintro r w1 ⟨A1, c1, rfl, h1, hb1⟩
  have HC1 := Lib.hid h1
  have HB1 := Lib.hid hb1
  have HT := Lib.hid (H2.out w1 (HCB.out.below hb1 (Nat.le_refl _) hb1.size))
  clear h1 hb1 H1 H2
  go_wp2_with fail
  refine HT.out.mono ?_
  rintro r w2 ⟨A2, c2, rfl, h2, hb2⟩
  have HC2 := Lib.hid h2
  have HCP := Lib.hid (HC1.out.below hb2 (Nat.le_refl _) hb2.size)
  have HB2 := Lib.hid (HB1.out.trans (hb2.mono HB1.out.size))
  clear h2 hb2 HT HC1 HB1
  go_wp2_with fail
  go_step3
  go_wp2_with fail
  go_loopg [5, 7, 14] P.length (fun q vn _ vi wr => ∃ j n : Nat, j + q = P.length ∧ vi = .int .i64 j ∧ vn = .int .i64 n ∧ n ≤ R.length ∧ doneTo P R j n ∧ Below w2.heap.size w2 wr)
  case atStart => exact ⟨0, 0, by omega, rfl, rfl, Nat.zero_le _, done_zero _ _, Below.refl _ _⟩
  case round =>
    obtain ⟨j, n0, hk, rfl, rfl, hn0, hd, hb⟩ := hrel
    obtain ⟨wo, hwo⟩ : ∃ y, y = wr := ⟨_, rfl⟩
    subst hwo
    obtain ⟨g0, hg0⟩ : ∃ y, y = gk := ⟨_, rfl⟩
    subst hg0
    have HK := Lib.hid hk
    have HD := Lib.hid hd
    have HB := Lib.hid hb
    clear hd hb hk
    by_cases hj : j < P.length
    · have hlt : decide ((j : Int) < (P.length : Int)) = true := by simpa using hj
      have hlt3 : decide (j < P.length) = true := by simpa using hj
      obtain ⟨bb, o, rfl, _, c0, c1⟩ := (HCP.out.below HB.out (Nat.le_refl _) (Nat.le_refl _)).at_ hj
      have HPj := Lib.hid (fun (n : Nat) (hn : n < R.length) (hD : doneTo P R j n) => And.intro (done_next_a HNR.out hD hj hn) (And.intro (done_next_b HNP.out HNR.out hD hj hn) (fun h => meet_true (List.getElem_mem hj) (List.getElem_mem hn) h)))
      generalize P[j] = x at *
      obtain ⟨xl, xh⟩ := x
      simp only at c0 c1
      obtain ⟨wt, hwt⟩ : ∃ y, wo.alloc (.cells #[.string (bs xl), .string (bs xh)] 52) = y := ⟨_, rfl⟩
      have hbt : Below w2.heap.size w2 wt := by rw [← hwt]; exact HB.out.alloc HB.out.size _
      have hnt : wt.heap[wo.heap.size]? = some (.cells #[.string (bs xl), .string (bs xh)] 52 (0, 0)) := by rw [← hwt]; exact heap_alloc_new wo _
      have HBt := Lib.hid hbt
      have HNt := Lib.hid hnt
      have HWt := Lib.hid hwt
      clear hbt hnt hwt
      go_upto_region 6 with fail
      rw [HWt.out]
      clear HWt c0 c1
      go_loopg [5] (R.length - n0) (fun q vn wr => ∃ n : Nat, n + q = R.length ∧ vn = .int .i64 n ∧ doneTo P R j n ∧ Below wt.heap.size wt wr)
      case atStart => exact ⟨n0, by omega, rfl, HD.out, Below.refl _ _⟩
      case round =>
        obtain ⟨n, hk, rfl, hd, hb⟩ := hrel
        obtain ⟨ws, hws⟩ : ∃ y, y = wr := ⟨_, rfl⟩
        subst hws
        have HK2 := Lib.hid hk
        have HD2 := Lib.hid hd
        have HB2s := Lib.hid hb
        clear hd hb hk
        by_cases hn : n < R.length
        · have hlt4 : decide ((n : Int) < (R.length : Int)) = true := by simpa using hn
          have hlt5 : decide (n < R.length) = true := by simpa using hn
          obtain ⟨h1, h2, h3⟩ := HPj.out n hn HD2.out
          obtain ⟨bc, oc, rfl, hbc, d0, d1⟩ := (HC2.out.below (HBt.out.trans (HB2s.out.mono HBt.out.size)) (Nat.le_refl _) (Nat.le_refl _)).at_ hn
          generalize R[n] = y at *
          obtain ⟨yl, yh⟩ := y
          simp only at d0 d1 h1 h2 h3
          have hbox := heap_below HNt.out HB2s.out (lt_of_heap HNt.out)
          have hbc2 : bc < ws.heap.size := Nat.lt_of_lt_of_le hbc (HBt.out.trans (HB2s.out.mono HBt.out.size)).size
          have HCl := Lib.hid (fun (W : World) (h : Below ws.heap.size ws W) => And.intro (cell_of_row W wo.heap.size 0 _ _ _ (heap_below hbox h (lt_of_heap hbox))) (And.intro (cell_of_row W wo.heap.size 1 _ _ _ (heap_below hbox h (lt_of_heap hbox))) (And.intro ((h.cell (p := ⟨bc, oc + n * 2, none⟩) hbc2).trans d0) ((h.cell (p := ⟨bc, oc + n * 2 + 1, none⟩) hbc2).trans d1))))
          have hMe := fun (W : World) (h : Below ws.heap.size ws W) => (dMeets_any ⟨xl, xh⟩ ⟨yl, yh⟩ W).mono fun r w' (q : r = .returned (.bool (meetsS ⟨xl, xh⟩ ⟨yl, yh⟩)) ∧ Below W.heap.size W w') => (⟨q.1, h.trans (q.2.mono h.size)⟩ : r = .returned (.bool (meetsS ⟨xl, xh⟩ ⟨yl, yh⟩)) ∧ Below ws.heap.size ws w')
          unfold spVal at hMe
          simp only at hMe
          clear hbox hbc hbc2 d0 d1
          cases hm : meetsS ⟨xl, xh⟩ ⟨yl, yh⟩ with
          | true =>
            rw [hm] at hMe
            have HMe := Lib.hid hMe
            have HF := Lib.hid (h3 hm)
            clear hm hMe h1 h2 h3
            go_wp2_with fail
            refine wp_region_classJ (C := fun W => Below ws.heap.size ws W) (by kernel_rfl) (by kernel_rfl) ((Below.refl _ _).drew) ?_
            repeat (
              refine no_implicit_lambda% (wpQuiet_step ?_)
              intro K hK
              go_simp
              first
              | (refine no_implicit_lambda% (hK _ ?_); clear hK K)
              | (apply Exists.intro
                 refine ⟨fun _ => ?_, hK _ ?_⟩
                 (first
                   | (intro hw; with_reducible exact HMe.out _ hw)
                   | (intro hw; obtain ⟨z0, z1, z2, z3⟩ := HCl.out _ hw; go_simp; with_reducible exact ⟨rfl, rfl⟩)
                   | (intro hw; obtain ⟨z0, z1, z2, z3⟩ := HCl.out _ hw; go_simp; with_reducible rfl)
                   | (intro _; with_reducible rfl)
                   | (intro hw; go_simp; with_reducible exact ⟨rfl, rfl⟩))
                 clear hK K))
            refine wpQuiet_nil ?_
            intro w8 hb8
            have HB8 := Lib.hid (HB2.out.trans ((HBt.out.trans ((HB2s.out.trans (hb8.mono HB2s.out.size)).mono HBt.out.size)).mono HB2.out.size))
            clear hb8
            go_wp2_with fail
            rw [Exit.noGoto_ret]
            go_ret
            rw [HF.out]
            exact ⟨rfl, HB8.out⟩
          | false =>
            rw [hm] at hMe
            have HMe := Lib.hid hMe
            have H1 := Lib.hid h1
            have H2 := Lib.hid (fun he => h2 he hm)
            clear hm hMe h1 h2 h3
            go_wp2_with fail
            refine wp_region_classJ (C := fun W => Below ws.heap.size ws W) (by kernel_rfl) (by kernel_rfl) ((Below.refl _ _).drew) ?_
            repeat (
              refine no_implicit_lambda% (wpQuiet_step ?_)
              intro K hK
              go_simp
              first
              | (refine no_implicit_lambda% (hK _ ?_); clear hK K)
              | (apply Exists.intro
                 refine ⟨fun _ => ?_, hK _ ?_⟩
                 (first
                   | (intro hw; with_reducible exact HMe.out _ hw)
                   | (intro hw; obtain ⟨z0, z1, z2, z3⟩ := HCl.out _ hw; go_simp; with_reducible exact ⟨rfl, rfl⟩)
                   | (intro hw; obtain ⟨z0, z1, z2, z3⟩ := HCl.out _ hw; go_simp; with_reducible rfl)
                   | (intro _; with_reducible rfl)
                   | (intro hw; go_simp; with_reducible exact ⟨rfl, rfl⟩))
                 clear hK K))
            refine wpQuiet_nil ?_
            intro w8 hb8
            have HB8 := Lib.hid hb8
            clear hb8
            go_upto_region 10 with fail
            have hAh := fun (W : World) (h : Below ws.heap.size ws W) => (dAheadI_any yl xh W).mono fun r w' (q : r = .returned (.bool (endS xh yl)) ∧ W = w') => (⟨q.1, q.2 ▸ h⟩ : r = .returned (.bool (endS xh yl)) ∧ Below ws.heap.size ws w')
            cases he : endS xh yl with
            | true =>
              rw [he] at hAh
              have HAh := Lib.hid hAh
              have HN := Lib.hid (H2.out he)
              clear he hAh H1 H2
              refine wp_region_classJ (C := fun W => Below ws.heap.size ws W) (by kernel_rfl) (by kernel_rfl) (HB8.out.drew) ?_
              repeat (
                refine no_implicit_lambda% (wpQuiet_step ?_)
                intro K hK
                go_simp
                first
                | (refine no_implicit_lambda% (hK _ ?_); clear hK K)
                | (apply Exists.intro
                   refine ⟨fun _ => ?_, hK _ ?_⟩
                   (first
                     | (intro hw; with_reducible exact HAh.out _ hw)
                     | (intro hw; obtain ⟨z0, z1, z2, z3⟩ := HCl.out _ hw; go_simp; with_reducible exact ⟨rfl, rfl⟩)
                     | (intro hw; obtain ⟨z0, z1, z2, z3⟩ := HCl.out _ hw; go_simp; with_reducible rfl)
                     | (intro _; with_reducible rfl)
                     | (intro hw; go_simp; with_reducible exact ⟨rfl, rfl⟩))
                   clear hK K))
              refine wpQuiet_nil ?_
              intro w9 hb9
              have HB9 := Lib.hid (HB2s.out.trans (hb9.mono HB2s.out.size))
              clear hb9
              go_wp2_with fail
              go_roundg (gk - 1)
              case measure => have := HK2.out; omega
              case rel => exact ⟨n + 1, by have := HK2.out; omega, by go_num, HN.out, HB9.out⟩
            | false =>
              rw [he] at hAh
              have HAh := Lib.hid hAh
              have HN := Lib.hid (H1.out he)
              clear he hAh H1 H2
              refine wp_region_classJ (C := fun W => Below ws.heap.size ws W) (by kernel_rfl) (by kernel_rfl) (HB8.out.drew) ?_
              repeat (
                refine no_implicit_lambda% (wpQuiet_step ?_)
                intro K hK
                go_simp
                first
                | (refine no_implicit_lambda% (hK _ ?_); clear hK K)
                | (apply Exists.intro
                   refine ⟨fun _ => ?_, hK _ ?_⟩
                   (first
                     | (intro hw; with_reducible exact HAh.out _ hw)
                     | (intro hw; obtain ⟨z0, z1, z2, z3⟩ := HCl.out _ hw; go_simp; with_reducible exact ⟨rfl, rfl⟩)
                     | (intro hw; obtain ⟨z0, z1, z2, z3⟩ := HCl.out _ hw; go_simp; with_reducible rfl)
                     | (intro _; with_reducible rfl)
                     | (intro hw; go_simp; with_reducible exact ⟨rfl, rfl⟩))
                   clear hK K))
              refine wpQuiet_nil ?_
              intro w9 hb9
              have HB9 := Lib.hid (HBt.out.trans ((HB2s.out.trans (hb9.mono HB2s.out.size)).mono HBt.out.size))
              clear hb9
              go_wp2_with fail
              go_roundg (g0 - 1)
              case measure => have := HK.out; omega
              case rel => exact ⟨j + 1, n, by have := HK.out; omega, by go_num, rfl, by omega, HN.out, HB9.out⟩
        · have hlt4 : decide ((n : Int) < (R.length : Int)) = false := by simpa using hn
          have hlt5 : decide (n < R.length) = false := by simpa using hn
          have HF := Lib.hid (done_b (by omega) HD2.out)
          have HB9 := Lib.hid (HB2.out.trans ((HBt.out.trans (HB2s.out.mono HBt.out.size)).mono HB2.out.size))
          clear hn
          go_wp2_with fail
          rw [Exit.noGoto_ret]
          go_ret
          rw [HF.out]
          exact ⟨rfl, HB9.out⟩
    · have hlt : decide ((j : Int) < (P.length : Int)) = false := by simpa using hj
      have hlt2 : decide (j < P.length) = false := by simpa using hj
      have HF := Lib.hid (done_a (by omega) HD.out)
      clear hj
      go_wp2_with fail
      rw [Exit.noGoto_ret]
      go_ret
      rw [HF.out]
      exact ⟨rfl, HB2.out.trans (HB.out.mono HB2.out.size)⟩
end Go.Proofs.Ytfdiidhilonkoaa
