import Derived.Test.YtdpbllacfljmoaaGreatZF30
import Derived.Test.YtdpbllacfljmoaaGreatZF18
import Derived.Test.YtdpbllacfljmoaaGreatZF09
import Derived.Lib.MinMax
set_option maxRecDepth 100000
set_option maxHeartbeats 16000000
set_option linter.unusedVariables false
namespace Go.Proofs.YtdpbllacfljmoaaGreat
open Go.RowKit
theorem q9Q (w : World) : Calls Tryz.prog 179 #[.slice none 0 0, .int .i64 0, .int .i64 0] w fun e w' => e = .returned (.slice none 0 0) ∧ w = w' := by
 have e1 : ((0 : Int) == (0 : Int)) = true := rfl
 go_enter Tryz.func179, Tryz.ntmps179
 go_wp2
 go_ret
 exact ⟨rfl, rfl⟩
theorem q4d (ms : List ML) (A : Option Addr) (c : Nat) (w : World) (hm : ms.length ≤ 100) (hl : (allL ms).length ≤ 100000) (hr : ChL w w.heap.size A ms) :
    Calls Tryz.prog 178 #[.slice A ms.length c] w fun e w' => ∃ v, e = .returned v ∧ OwnG 131 2 q07 w' w.heap.size v (q0a (allL ms)) ∧ Below w.heap.size w w' := by
  have HC := qh (q9O ms A c w hm (by omega) hr)
  clear hr
  go_enter Tryz.func178, Tryz.ntmps178
  go_wp2_with fail
  refine HC.out.mono ?_
  rintro r w1 ⟨v1, rfl, ho1, hb1⟩
  have HD := qh (qbA (allL ms) w.heap.size v1 w1 (by omega) ho1 hb1.size)
  have HB1 := qh hb1
  clear ho1 hb1 HC
  go_wp2_with fail
  refine HD.out.mono ?_
  rintro r w2 ⟨l, v2, hmem, hrise, hlen, rfl, ho2, hb2⟩
  have HJ := qh (qeq hmem hrise)
  have HB2 := qh (HB1.out.trans hb2)
  have hll : l.length ≤ 100000 := by omega
  clear hmem hrise hlen HD hb2
  rcases ho2.blk with ⟨rfl, rfl⟩ | ⟨b, cap, rfl, hbl⟩
  · clear ho2
    have HN := qh (fun w => q9Q w)
    have HE := qh (show q0a (allL ms) = [] from HJ.out.symm)
    have hlt : decide ((0 : Int) < 0) = false := rfl
    have hlt2 : decide (0 < 0) = false := rfl
    go_wp2_with fail
    go_loopg [4, 12] 0 (fun q n i wr => n = .int .i64 0 ∧ i = .int .i64 0 ∧ w2 = wr)
    case atStart => exact ⟨rfl, rfl, rfl⟩
    case round =>
      obtain ⟨rfl, rfl, rfl⟩ := hrel
      go_wp2_with fail
      refine (HN.out w2).mono ?_
      rintro r w3 ⟨rfl, rfl⟩
      go_wp2_with fail
      go_ret
      exact ⟨_, rfl, by rw [HE.out]; exact OwnG.none_ _ _ _ _ _, HB2.out⟩
  · clear ho2
    have HLO := qh hbl.lt
    have HBl := qh hbl
    have HCap := qh hbl.len
    clear hbl
    go_wp2_with fail
    go_loopg [4, 6, 12] l.length (fun q vn _ vi wr => ∃ (j n : Nat) (L : List Sp), j + q = l.length ∧ vi = .int .i64 j ∧ vn = .int .i64 n ∧ UniI l L j n ∧ BlkI wr w.heap.size b cap L ∧ Below w.heap.size w wr)
    case atStart => exact ⟨0, 0, l, by omega, rfl, rfl, UniI.start l, HBl.out, HB2.out⟩
    case round =>
      obtain ⟨j, n, L, hk, rfl, rfl, hu, hbl, hbw⟩ := hrel
      have HK := qh hk
      have HU := qh hu
      have HBlr := qh hbl
      have HBw := qh hbw
      have hnj := hu.le
      clear hk hu hbl hbw
      by_cases hj : j < l.length
      · have hlt : decide ((j : Int) < (l.length : Int)) = true := by simpa using hj
        have hlt2 : decide (j < l.length) = true := by simpa using hj
        have hjL : j < L.length := by rw [HU.out.len]; exact hj
        have hnL : n < L.length := by omega
        have hnl : n < l.length := by omega
        have hnl2 : (n : Int) < (l.length : Int) := by omega
        have hcl := HBlr.out.at_ hjL
        rw [HU.out.at_ hj hjL] at hcl
        obtain ⟨c0, c1⟩ := hcl
        have HMore := qh (fun hs => HU.out.more hj hs)
        have HStore := qh (fun (W : World) (h : BlkI W w.heap.size b cap L) => h.store n (l[j]'hj) hnL)
        have HLess := qh (fun (q : Nat) (e : n = q + 1) (hq : q < L.length) (hg : gapB (L[q]'hq) (l[j]'hj) = false) => (show UniI l (L.set q ⟨(L[q]'hq).lo, q2K (L[q]'hq).hi (l[j]'hj).hi⟩) (j + 1) n by
          subst e
          exact HU.out.less hj hq hg))
        generalize l[j]'hj = x at *
        obtain ⟨xl, xh⟩ := x
        simp only at c0 c1
        obtain ⟨wt, hwt⟩ : ∃ y, wr.alloc (.cells #[.string (bs xl), .string (bs xh)] 131) = y := ⟨_, rfl⟩
        have hx := heap_alloc_new wr (.cells #[.string (bs xl), .string (bs xh)] 131)
        have hbt := HBlr.out.allocs (.cells #[.string (bs xl), .string (bs xh)] 131)
        have hwb : Below w.heap.size w wt := by rw [← hwt]; exact HBw.out.alloc HBw.out.size _
        rw [hwt] at hx hbt
        have HBx := qh (fun (W : World) (h : Below wt.heap.size wt W) => And.intro (cell_of_row W wr.heap.size 0 _ _ _ (q01 hx h (q00 hx))) (cell_of_row W wr.heap.size 1 _ _ _ (q01 hx h (q00 hx))))
        have HBt := qh hbt
        have HWt := qh hwb
        have HLt := qh hwb.size
        have HWw := qh hwt
        clear hx hbt hwb hwt HU
        by_cases h0 : n = 0
        · subst h0
          have HMo := qh (HMore.out (.inl rfl))
          have HSt := HStore
          have HCl := HBx
          have e0 : ((0 : Int) == 0) = true := rfl
          clear HMore HStore HLess
          go_upto_region 6 with fail
          rw [HWw.out]
          clear HWw c0 c1
          refine q04 (C := fun W => Below wt.heap.size wt W) (by kernel_rfl) (by kernel_rfl) ((Below.refl _ _).drew) ?_
          repeat (
            refine no_implicit_lambda% (wpQuiet_step ?_)
            intro K hK
            go_simp
            first
            | (refine no_implicit_lambda% (hK _ ?_); clear hK K)
            | (apply Exists.intro
               refine ⟨fun _ => ?_, hK _ ?_⟩
               (first
                 | (intro hw; obtain ⟨z0, z1⟩ := HCl.out _ hw; go_simp; with_reducible exact ⟨rfl, rfl⟩)
                 | (intro hw; obtain ⟨z0, z1⟩ := HCl.out _ hw; go_simp; with_reducible rfl)
                 | (intro _; with_reducible rfl)
                 | (intro hw; go_simp; with_reducible exact ⟨rfl, rfl⟩))
               clear hK K))
          refine wpQuiet_nil ?_
          intro w8 hb8
          have hbl8 := HBt.out.below hb8
          obtain ⟨x0, x1⟩ := HBx.out w8 hb8
          obtain ⟨b0, b1⟩ := hbl8.at_ hnL
          have f0 := hbl8.frozen (0 * 2)
          have f1 := hbl8.frozen (0 * 2 + 1)
          simp only [Nat.zero_mul] at b0 b1 f0 f1
          have HBl8 := qh hbl8
          have HW8 := qh (HWt.out.trans (hb8.mono HLt.out))
          clear hb8 hbl8
          go_wp2_with fail
          go_roundg (gk - 1)
          case measure => have := HK.out; omega
          case rel => exact ⟨j + 1, 0 + 1, _, by have := HK.out; omega, by go_num, by go_num, HMo.out, (by have h := HSt.out _ HBl8.out; simpa only [Nat.zero_mul] using h), ((HW8.out.setCell HLO.out.1 _).setCell HLO.out.1 _)⟩
        · obtain ⟨q, hq⟩ : ∃ q, n = q + 1 := ⟨n - 1, by omega⟩
          have hpL : q < L.length := by omega
          have hpl : q < l.length := by omega
          have hql : (q : Int) < (l.length : Int) := by omega
          have g0 : ((n : Int) == 0) = false := by rw [beq_eq_false_iff_ne]; omega
          have e1 : IntKind.i64.wrap ((n : Int) - 1) = (q : Int) := by simp [IntKind.wrap, IntKind.bits, IntKind.signed]; omega
          have g2 : ¬ ((n : Int) = 0) := by omega
          have HCl := qh (fun (W : World) (h : Below wt.heap.size wt W) => And.intro (HBx.out W h).1 (And.intro (HBx.out W h).2 ((HBt.out.below h).at_ hpL)))
          have hLe := HLess.out q hq hpL
          have hMo : gapB (L[q]'hpL) ⟨xl, xh⟩ = true → UniI l (L.set n ⟨xl, xh⟩) (j + 1) (n + 1) := fun hg => HMore.out (.inr ⟨show n - 1 < L.length by omega, by
            have e9 : n - 1 = q := by omega
            simp only [e9]
            exact hg⟩)
          have HSh0 := qh (fun (W : World) (h : BlkI W w.heap.size b cap L) => h.store_hi q (q2K (L[q]'hpL).hi xh) hpL)
          have HAtq := qh (fun (W : World) (h : BlkI W w.heap.size b cap L) => h.at_ hpL)
          have HSt := HStore
          clear HMore HStore HLess h0 hq
          generalize L[q]'hpL = y at *
          obtain ⟨yl, yh⟩ := y
          simp only at HSh0 hLe HAtq HCl hMo
          have hAp := fun (W : World) (h : Below wt.heap.size wt W) => (q71 ⟨yl, yh⟩ ⟨xl, xh⟩ W).mono fun r w' (q : r = .returned (.bool (gapB ⟨yl, yh⟩ ⟨xl, xh⟩)) ∧ Below W.heap.size W w') => (⟨q.1, h.trans (q.2.mono h.size)⟩ : r = .returned (.bool (gapB ⟨yl, yh⟩ ⟨xl, xh⟩)) ∧ Below wt.heap.size wt w')
          unfold q0T at hAp
          simp only at hAp
          cases hg : gapB ⟨yl, yh⟩ ⟨xl, xh⟩ with
          | true =>
            rw [hg] at hAp
            have HAp := qh hAp
            have HMo := qh (hMo hg)
            clear hg hAp hMo hLe HSh0
            go_upto_region 6 with fail
            rw [HWw.out]
            clear HWw c0 c1
            refine q04 (C := fun W => Below wt.heap.size wt W) (by kernel_rfl) (by kernel_rfl) ((Below.refl _ _).drew) ?_
            repeat (
              refine no_implicit_lambda% (wpQuiet_step ?_)
              intro K hK
              go_simp
              first
              | (refine no_implicit_lambda% (hK _ ?_); clear hK K)
              | (apply Exists.intro
                 refine ⟨fun _ => ?_, hK _ ?_⟩
                 (first
                   | (intro hw; with_reducible exact HAp.out _ hw)
                   | (intro hw; obtain ⟨z0, z1, z2, z3⟩ := HCl.out _ hw; go_simp; with_reducible exact ⟨rfl, rfl⟩)
                   | (intro hw; obtain ⟨z0, z1, z2, z3⟩ := HCl.out _ hw; go_simp; with_reducible rfl)
                   | (intro hw; simp only [go_sem, e1]; with_reducible exact ⟨rfl, rfl⟩)
                   | (intro _; with_reducible rfl)
                   | (intro hw; go_simp; with_reducible exact ⟨rfl, rfl⟩))
                 clear hK K))
            refine wpQuiet_nil ?_
            intro w8 hb8
            have hbl8 := HBt.out.below hb8
            obtain ⟨x0, x1⟩ := HBx.out w8 hb8
            obtain ⟨b0, b1⟩ := hbl8.at_ hnL
            have f0 := hbl8.frozen (n * 2)
            have f1 := hbl8.frozen (n * 2 + 1)
            have HBl8 := qh hbl8
            have HW8 := qh (HWt.out.trans (hb8.mono HLt.out))
            clear hb8 hbl8
            go_wp2_with fail
            go_roundg (gk - 1)
            case measure => have := HK.out; omega
            case rel => exact ⟨j + 1, n + 1, _, by have := HK.out; omega, by go_num, by go_num, HMo.out, HSt.out _ HBl8.out, ((HW8.out.setCell HLO.out.1 _).setCell HLO.out.1 _)⟩
          | false =>
            rw [hg] at hAp
            have HAp := qh hAp
            have HLe := qh (hLe hg)
            have HSh := HSh0
            clear hg hAp hMo hLe HSt HSh0
            go_upto_region 6 with fail
            rw [HWw.out]
            clear HWw c0 c1
            refine q04 (C := fun W => Below wt.heap.size wt W) (by kernel_rfl) (by kernel_rfl) ((Below.refl _ _).drew) ?_
            repeat (
              refine no_implicit_lambda% (wpQuiet_step ?_)
              intro K hK
              go_simp
              first
              | (refine no_implicit_lambda% (hK _ ?_); clear hK K)
              | (apply Exists.intro
                 refine ⟨fun _ => ?_, hK _ ?_⟩
                 (first
                   | (intro hw; with_reducible exact HAp.out _ hw)
                   | (intro hw; obtain ⟨z0, z1, z2, z3⟩ := HCl.out _ hw; go_simp; with_reducible exact ⟨rfl, rfl⟩)
                   | (intro hw; obtain ⟨z0, z1, z2, z3⟩ := HCl.out _ hw; go_simp; with_reducible rfl)
                   | (intro hw; simp only [go_sem, e1]; with_reducible exact ⟨rfl, rfl⟩)
                   | (intro _; with_reducible rfl)
                   | (intro hw; go_simp; with_reducible exact ⟨rfl, rfl⟩))
                 clear hK K))
            refine wpQuiet_nil ?_
            intro w8 hb8
            have hbl8 := HBt.out.below hb8
            have HBl8 := qh hbl8
            have HW8 := qh (HWt.out.trans (hb8.mono HLt.out))
            have HB8 := qh hb8
            clear hb8 hbl8
            go_upto_region 9 with fail
            have HCl8 := qh (fun (W : World) (h : Below w8.heap.size w8 W) => HCl.out W (HB8.out.trans (h.mono HB8.out.size)))
            have HLa := qh (fun (W : World) (h : Below w8.heap.size w8 W) => (qbB yh xh W).mono fun r w' (q : r = .returned (.string (bs (q2K yh xh))) ∧ W = w') => (⟨q.1, q.2 ▸ h⟩ : r = .returned (.string (bs (q2K yh xh))) ∧ Below w8.heap.size w8 w'))
            generalize q2K yh xh = yq at *
            refine q1E (C := fun W => Below w8.heap.size w8 W) 14 (by kernel_rfl) (by kernel_rfl) (Below.refl _ _).drew ?_
            simp only [List.take_succ_cons, List.take_zero, List.drop_succ_cons, List.drop_zero]
            repeat (
              refine no_implicit_lambda% (wpQuiet_step ?_)
              intro K hK
              go_simp
              first
              | (refine no_implicit_lambda% (hK _ ?_); clear hK K)
              | (apply Exists.intro
                 refine ⟨fun _ => ?_, hK _ ?_⟩
                 (first
                   | (intro _; with_reducible rfl)
                   | (intro hw; with_reducible exact HLa.out _ hw)
                   | (intro hw; simp only [go_sem, e1]; with_reducible exact ⟨rfl, rfl⟩)
                   | (intro hw; obtain ⟨z0, z1, z2, z3⟩ := HCl8.out _ hw; go_simp; with_reducible exact ⟨rfl, rfl⟩)
                   | (intro hw; obtain ⟨z0, z1, z2, z3⟩ := HCl8.out _ hw; go_simp; with_reducible rfl)
                   | (intro hw; go_simp; with_reducible exact ⟨rfl, rfl⟩))
                 clear hK K))
            refine wpQuiet_nil ?_
            intro w9 hb9
            have hbl9 := HBl8.out.below hb9
            obtain ⟨b0, b1⟩ := hbl9.at_ hpL
            have f1 := hbl9.frozen (q * 2 + 1)
            have HBl9 := qh hbl9
            have HW9 := qh (HW8.out.trans (hb9.mono (Nat.le_trans HLt.out HB8.out.size)))
            clear hb9 hbl9
            go_wp2_with fail
            go_roundg (gk - 1)
            case measure => have := HK.out; omega
            case rel => exact ⟨j + 1, n, _, by have := HK.out; omega, by go_num, rfl, HLe.out, HSh.out _ HBl9.out, (HW9.out.setCell HLO.out.1 _)⟩
      · have hj' : j = l.length := by have := HK.out; omega
        subst hj'
        have hlt : decide ((l.length : Int) < (l.length : Int)) = false := by simp
        have hlt2 : decide (l.length < l.length) = false := by simp
        have hLl := HU.out.len
        have hTk : L.take n ++ L.drop l.length = q0a (allL ms) := by
          rw [HU.out.end_, ← hLl, List.drop_length, List.append_nil]
          exact HJ.out
        have hdel := q65 L n L.length w.heap.size b cap wr (by omega) (Nat.le_refl _) (by omega) HBlr.out HBw.out.size
        rw [hLl, hTk] at hdel
        have HDel := qh hdel
        clear hj hdel hTk hLl HU
        go_wp2_with fail
        refine HDel.out.mono ?_
        rintro r w9 ⟨rfl, hb9, hw9⟩
        go_wp2_with fail
        go_ret
        exact ⟨_, rfl, hb9.own, HBw.out.trans hw9⟩
open Go.RowKit
def ChF (w : World) (lo hi : Nat) (A : Option Addr) (c : Nat) (l : List Sp) : Prop := l.length ≤ c ∧ c ≤ maxLen ∧ (A = none → c = 0) ∧ RowG q07 w lo hi A l
section
variable {w w' : World} {lo hi lo' hi' B : Nat} {A : Option Addr} {c : Nat} {l : List Sp}
theorem ChF.ch (h : ChF w lo hi A c l) : ChI w hi A c l := ⟨h.1, h.2.1, h.2.2.1, h.2.2.2.wide (Nat.zero_le _) (Nat.le_refl _)⟩
theorem ChF.below (h : ChF w lo hi A c l) (hb : Below B w w') (hB : hi ≤ B) (hh : hi ≤ hi') : ChF w' lo hi' A c l := ⟨h.1, h.2.1, h.2.2.1, (h.2.2.2.below hb hB).wide (Nat.le_refl _) hh⟩
theorem ChF.lower (h : ChF w lo hi A c l) (hl : lo' ≤ lo) : ChF w lo' hi A c l := ⟨h.1, h.2.1, h.2.2.1, h.2.2.2.wide hl (Nat.le_refl _)⟩
theorem OwnG.chF {e : TypeId} {v : Value} (h : OwnG e 2 q07 w lo v l) : ∃ A c, v = .slice A l.length c ∧ ChF w lo w.heap.size A c l := by
 obtain ⟨A, c, rfl, k1, k2, k3, k4⟩ := h.form
 exact ⟨A, c, rfl, k1, k2, k3, k4⟩
end
def RetF (m : List Sp) (w : World) (r : Ending) (w' : World) : Prop := ∃ A c, r = .returned (.slice A m.length c) ∧ ChF w' w.heap.size w'.heap.size A c m ∧ Below w.heap.size w w'
theorem RetF.retI {m : List Sp} {w w' : World} {r : Ending} (h : RetF m w r w') : RetI m w r w' := by
 obtain ⟨A, c, e, h1, h2⟩ := h
 exact ⟨A, c, e, h1.ch, h2⟩
theorem qcB {w : World} {g : Nat} {x y : ML} {e : TypeId} (h : w.heap[g]? = some (.cells #[.slice x.A x.l.length x.c, .slice y.A y.l.length y.c] e (0, 0))) (hx : ChI w w.heap.size x.A x.c x.l) (hy : ChI w w.heap.size y.A y.c y.l) : ChL w w.heap.size (some ⟨g, 0, none⟩) [x, y] :=
 ⟨(RowG.block h (fun j u hu => by simpa [q0g, q6t] using hu)).wide (Nat.zero_le _) (q00 h), fun z hz => by
  rw [List.mem_cons, List.mem_singleton] at hz
  rcases hz with rfl | rfl
  ·exact hx
  ·exact hy⟩
theorem qfV {w : World} {g : Nat} {x : ML} {e : TypeId} (h : w.heap[g]? = some (.cells #[.slice x.A x.l.length x.c] e (0, 0))) (hx : ChI w w.heap.size x.A x.c x.l) : ChL w w.heap.size (some ⟨g, 0, none⟩) [x] :=
 ⟨(RowG.block h (fun j u hu => by simpa [q0g, q6t] using hu)).wide (Nat.zero_le _) (q00 h), fun z hz => by
  rw [List.mem_singleton] at hz
  rcases hz with rfl
  exact hx⟩
theorem q5z (x y : ML) : allL [x, y] = x.l ++ y.l := by simp [allL]
theorem qaC (x : ML) : allL [x] = x.l := by simp [allL]
theorem qcL (a b : List Sp) (A B : Option Addr) (c d : Nat) (w : World) (ha : okI a) (hb : okI b) (hca : ChI w w.heap.size A c a) (hcb : ChI w w.heap.size B d b) :
  Calls Tryz.prog 245 #[.slice A a.length c, .slice B b.length d] w (RetI (q0a (a ++ b)) w) := by
 have hb1 : Below w.heap.size w (w.alloc (.cells #[.slice A a.length c, .slice B b.length d] 84)) := (Below.refl _ w).alloc (Nat.le_refl _) _
 have hx1 := heap_alloc_new w (.cells #[.slice A a.length c, .slice B b.length d] 84)
 have hu := q4d [⟨A, c, a⟩, ⟨B, d, b⟩] (some ⟨w.heap.size, 0, none⟩) 2 _ (by simp) (by rw [q5z, List.length_append]; unfold okI at ha hb; simp only; omega) (qcB hx1 (hca.below hb1 (Nat.le_refl _) hb1.size) (hcb.below hb1 (Nat.le_refl _) hb1.size))
 rw [q5z] at hu
 have HU := qh hu
 have HB1 := qh hb1
 clear hb1 hx1 hu hca hcb
 go_enter Tryz.func245, Tryz.ntmps245
 go_wp2_with fail
 refine HU.out.mono ?_
 rintro r w2 ⟨v, rfl, ho, hb2⟩
 obtain ⟨A9, c9, rfl, hc9⟩ := ho.chI
 have HC9 := qh hc9
 have HB2 := qh (HB1.out.trans (hb2.mono HB1.out.size))
 clear ho hc9 hb2
 go_wp2_with fail
 go_ret
 exact ⟨A9, c9, rfl, HC9.out, HB2.out⟩
theorem qcE (a : List Sp) (s : Sp) (A : Option Addr) (c : Nat) (w : World) (ha : okI a) (hca : ChI w w.heap.size A c a) :
  Calls Tryz.prog 122 #[.slice A a.length c, q0T s] w (RetF (q0a (a ++ [s])) w) := by
 obtain ⟨sl, sh⟩ := s
 unfold q0T
 simp only
 obtain ⟨w2, hw2⟩ : ∃ y, (w.alloc (.cells #[.string (bs sl), .string (bs sh)] 131)).alloc (.cells #[.string (bs sl), .string (bs sh)] 131) = y := ⟨_, rfl⟩
 have hb2 : Below w.heap.size w w2 := by rw [← hw2]; exact ((Below.refl _ w).alloc (Nat.le_refl _) _).alloc (by simp) _
 have hx2 : w2.heap[w.heap.size + 1]? = some (.cells #[.string (bs sl), .string (bs sh)] 131 (0, 0)) := by rw [← hw2]; exact q23 w _ _
 have hone : ChI w2 w2.heap.size (some ⟨w.heap.size + 1, 0, none⟩) 1 [⟨sl, sh⟩] := ⟨Nat.le_refl _, by simp [maxLen], (fun e => by cases e), (RowG.one (cs := q07) (x := ⟨sl, sh⟩) hx2).wide (Nat.zero_le _) (q00 hx2)⟩
 have hs2 : w2.heap.size = w.heap.size + 1 + 1 := by rw [← hw2]; simp
 have hb3 : Below w2.heap.size w2 (w2.alloc (.cells #[.slice A a.length c, .slice (some ⟨w.heap.size + 1, 0, none⟩) 1 1] 84)) := (Below.refl _ w2).alloc (Nat.le_refl _) _
 have hx3 := heap_alloc_new w2 (.cells #[.slice A a.length c, .slice (some ⟨w.heap.size + 1, 0, none⟩) 1 1] 84)
 rw [hs2] at hx3
 have hu := q4d [⟨A, c, a⟩, ⟨some ⟨w.heap.size + 1, 0, none⟩, 1, [⟨sl, sh⟩]⟩] (some ⟨w.heap.size + 1 + 1, 0, none⟩) 2 _ (by simp) (by rw [q5z, List.length_append]; unfold okI at ha; simp; omega) (qcB hx3 ((hca.below hb2 (Nat.le_refl _) hb2.size).below hb3 (Nat.le_refl _) hb3.size) (hone.below hb3 (Nat.le_refl _) hb3.size))
 rw [q5z] at hu
 have HU := qh hu
 have HB3 := qh (hb2.trans (hb3.mono hb2.size))
 have HW2 := qh hw2
 clear hb2 hx2 hone hs2 hb3 hx3 hu hca hw2
 go_enter Tryz.func122, Tryz.ntmps122
 go_wp2_with fail
 rw [HW2.out]
 clear HW2
 refine HU.out.mono ?_
 rintro r w4 ⟨v, rfl, ho, hb4⟩
 obtain ⟨A9, c9, rfl, hc9⟩ := ho.chF
 have HC9 := qh hc9
 have HB4 := qh (HB3.out.trans (hb4.mono HB3.out.size))
 clear ho hc9 hb4
 go_wp2_with fail
 go_ret
 exact ⟨A9, c9, rfl, HC9.out.lower HB3.out.size, HB4.out⟩
theorem qaI (a : List Sp) (s : Sp) (A : Option Addr) (c : Nat) (w : World) (ha : okI a) (hca : ChI w w.heap.size A c a) :
  Calls Tryz.prog 122 #[.slice A a.length c, q0T s] w (RetI (q0a (a ++ [s])) w) := (qcE a s A c w ha hca).mono fun _ _ h => h.retI
theorem q7a (a : List Sp) (A : Option Addr) (c : Nat) (w : World) (ha : okI a) (hca : ChI w w.heap.size A c a) :
  Calls Tryz.prog 178 #[.slice (some ⟨w.heap.size, 0, none⟩) 1 1] (w.alloc (.cells #[.slice A a.length c] 84)) fun e w' => ∃ v, e = .returned v ∧ OwnG 131 2 q07 w' (w.heap.size + 1) v (q0a a) ∧ Below w.heap.size w w' := by
 have hb1 : Below w.heap.size w (w.alloc (.cells #[.slice A a.length c] 84)) := (Below.refl _ w).alloc (Nat.le_refl _) _
 have hx1 := heap_alloc_new w (.cells #[.slice A a.length c] 84)
 have hu := q4d [⟨A, c, a⟩] (some ⟨w.heap.size, 0, none⟩) 1 _ (by simp) (by rw [qaC]; unfold okI at ha; simp only; omega) (qfV hx1 (hca.below hb1 (Nat.le_refl _) hb1.size))
 rw [qaC] at hu
 exact hu.mono fun _ _ ⟨v, e, ho, hb⟩ => ⟨v, e, by rw [show w.heap.size + 1 = (w.alloc (.cells #[.slice A a.length c] 84)).heap.size by simp]; exact ho, hb1.trans (hb.mono hb1.size)⟩
theorem q4y (a : List Sp) (A : Option Addr) (c : Nat) (w : World) (ha : okI a) (hca : ChI w w.heap.size A c a) :
  Calls Tryz.prog 240 #[.slice A a.length c] w (RetI (q0a a) w) := by
 have HN := qh (q69 a A c w (by unfold okI at ha; omega) hca.2.2.2)
 have HC := qh hca
 cases hq : q3F a with
 | true =>
  rw [hq] at HN
  have HE := qh (show q0a a = a from (q4f (q6w.1 hq) fun _ => rfl).symm)
  clear hca hq
  go_enter Tryz.func240, Tryz.ntmps240
  go_wp2_with fail
  refine HN.out.mono ?_
  rintro r w1 ⟨rfl, hb1⟩
  have HB1 := qh hb1
  clear hb1
  go_wp2_with fail
  go_ret
  exact ⟨A, c, by rw [HE.out]; rfl, by rw [HE.out]; exact HC.out.below HB1.out (Nat.le_refl _) HB1.out.size, HB1.out⟩
 | false =>
  rw [hq] at HN
  clear hca hq
  go_enter Tryz.func240, Tryz.ntmps240
  go_wp2_with fail
  refine HN.out.mono ?_
  rintro r w1 ⟨rfl, hb1⟩
  have HU := qh (q7a a A c w1 ha (HC.out.below hb1 (Nat.le_refl _) hb1.size))
  have HB1 := qh hb1
  clear hb1
  go_wp2_with fail
  refine HU.out.mono ?_
  rintro r w2 ⟨v, rfl, ho, hb2⟩
  obtain ⟨A9, c9, rfl, hc9⟩ := ho.chI
  have HC9 := qh hc9
  have HB2 := qh (HB1.out.trans (hb2.mono HB1.out.size))
  clear ho hc9 hb2
  go_wp2_with fail
  go_ret
  exact ⟨A9, c9, rfl, HC9.out, HB2.out⟩
theorem q3x (a : List Sp) (A : Option Addr) (c : Nat) (n : Int) (w : World) (ha : okI a) (hn1 : -9223372036854775808 ≤ n) (hn2 : n ≤ 9223372036854775807) (hca : ChI w w.heap.size A c a) :
  Calls Tryz.prog 121 #[.slice A a.length c, .int .i64 n] w (RetF (fitI n (q0a a)) w) := by
 have HU := qh (q7a a A c w ha hca)
 have HMx := q8C n
 have hjl : (q0a a).length ≤ 1000 := Nat.le_trans (q1u a) ha
 have hN2 : fitN n ≤ 9223372036854775807 := by unfold fitN; omega
 have hN1 := q5C n
 clear hca hn1 hn2
 generalize q0a a = J at *
 go_enter Tryz.func121, Tryz.ntmps121
 go_wp2_with fail
 refine HU.out.mono ?_
 rintro r w1 ⟨v, rfl, ho, hb1⟩
 have HB1 := qh hb1
 clear hb1 HU
 by_cases hle : J.length ≤ fitN n
 ·obtain ⟨A9, c9, rfl, hc9⟩ := ho.chF
  have HC9 := qh hc9
  have HE := qh (q7G hle)
  have d1 : decide ((J.length : Int) - (fitN n : Int) ≤ 0) = true := by rw [decide_eq_true_iff]; omega
  have d2 : (J.length : Int) - (fitN n : Int) ≤ 0 := by omega
  clear ho hc9
  go_wp2_with fail
  go_ret
  exact ⟨A9, c9, by rw [HE.out]; rfl, by rw [HE.out]; exact HC9.out.lower (Nat.le_succ _), HB1.out⟩
 ·rcases ho.blk with ⟨rfl, h0⟩ | ⟨b, cap, rfl, hbl⟩
  ·rw [h0] at hle
   exact absurd (Nat.zero_le _) hle
  ·obtain ⟨m, hm⟩ : ∃ m, J.length = fitN n + m := ⟨J.length - fitN n, by omega⟩
   have hm0 : 0 < m := by omega
   have hmJ : m < J.length := by omega
   have h0J : 0 < J.length := by omega
   have e1 : (J.length : Int) - (fitN n : Int) = (m : Int) := by omega
   have d1 : decide ((m : Int) ≤ 0) = false := by rw [decide_eq_false_iff_not]; omega
   have d2 : ¬ ((m : Int) ≤ 0) := by omega
   have i1 : (0 : Int) < (J.length : Int) := by omega
   have i2 : (m : Int) < (J.length : Int) := by omega
   obtain ⟨b0, b1⟩ := hbl.at_ h0J
   obtain ⟨c0, c1⟩ := hbl.at_ hmJ
   rw [Nat.zero_mul] at b0 b1
   have f0 := hbl.frozen (m * 2)
   have hst := hbl.store_lo m (J[0]'h0J).lo hmJ
   have hfd : fitI n J = ⟨(J[0]'h0J).lo, (J[m]'hmJ).hi⟩ :: J.drop (m + 1) := fit_drop (fitN n) m J (by omega) (by omega)
   have hJd : (J.set m ⟨(J[0]'h0J).lo, (J[m]'hmJ).hi⟩).take 0 ++ (J.set m ⟨(J[0]'h0J).lo, (J[m]'hmJ).hi⟩).drop m = fitI n J := by
    rw [hfd, List.take_zero, List.nil_append, List.drop_eq_getElem_cons (by rw [List.length_set]; exact hmJ), List.getElem_set_self, List.drop_set_of_lt (by omega)]
   have hsl : (J.set m ⟨(J[0]'h0J).lo, (J[m]'hmJ).hi⟩).length = J.length := by rw [List.length_set]
   generalize J.set m ⟨(J[0]'h0J).lo, (J[m]'hmJ).hi⟩ = J2 at *
   generalize (J[0]'h0J).lo = x0 at *
   generalize J[m]'hmJ = y0 at *
   generalize J[0]'h0J = z0 at *
   obtain ⟨w2, hw2⟩ : ∃ y, w1.setCell ⟨b, m * 2, none⟩ (.string (bs x0)) = y := ⟨_, rfl⟩
   have hdel := q65 J2 0 m (w.heap.size + 1) b cap w2 (Nat.zero_le _) (by omega) (by omega) (by rw [← hw2]; exact hst) (by rw [← hw2]; have := HB1.out.size; have := hbl.lt; simp [World.setCell]; omega)
   rw [hsl, hJd] at hdel
   have HDel := qh hdel
   have HB2 := qh (show Below w.heap.size w w2 by rw [← hw2]; exact HB1.out.setCell (show w.heap.size ≤ b by have := hbl.lt.1; omega) _)
   have HW2 := qh hw2
   clear ho hbl hst hdel hw2 hfd hJd hm hle h0J
   go_upto_region 6 with fail
   rw [HW2.out]
   clear HW2
   go_wp2_with fail
   refine HDel.out.mono ?_
   rintro r w3 ⟨rfl, hb3, hw3⟩
   obtain ⟨A9, c9, e9, hc9⟩ := hb3.own.chF
   have HC9 := qh hc9
   have HB3 := qh (HB2.out.trans (hw3.mono (by omega)))
   have HE9 := qh e9
   clear hb3 hw3 hc9 e9
   go_wp2_with fail
   go_ret
   exact ⟨A9, c9, congrArg Ending.returned HE9.out, HC9.out.lower (Nat.le_succ _), HB3.out⟩
theorem qeU (a : List Sp) (A : Option Addr) (c : Nat) (n : Int) (w : World) (ha : okI a) (hn1 : -9223372036854775808 ≤ n) (hn2 : n ≤ 9223372036854775807) (hca : ChI w w.heap.size A c a) :
  Calls Tryz.prog 121 #[.slice A a.length c, .int .i64 n] w (RetI (fitI n (q0a a)) w) := (q3x a A c n w ha hn1 hn2 hca).mono fun _ _ h => h.retI
end Go.Proofs.YtdpbllacfljmoaaGreat
