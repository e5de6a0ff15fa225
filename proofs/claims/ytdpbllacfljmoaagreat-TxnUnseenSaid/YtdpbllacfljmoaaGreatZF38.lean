import Derived.Test.YtdpbllacfljmoaaGreatZF37
import Derived.Deep.LoopGhost
set_option maxRecDepth 100000
set_option maxHeartbeats 16000000
set_option linter.unusedVariables false
namespace Go.Proofs.YtdpbllacfljmoaaGreat
open Go.RowKit
theorem q94 (t a : RecS) (h : a.out < 18446744073709551616) : outB t a = (!(a.out == 0) && decide (a.out ≤ q0A ⟨t.first, 18446744073709551615, t.began, t.out, t.reads, t.writes⟩)) := by
 unfold outB q0A
 congr 1
 simp only
 by_cases hw : t.writes.isEmpty = true
 ·rw [hw, if_pos rfl]
  simp
 ·rw [if_neg hw]
  have : t.writes.isEmpty = false := by simpa using hw
  rw [this]
  have hd : decide (a.out ≤ 18446744073709551615) = true := by rw [decide_eq_true_iff]; omega
  rw [hd]
  rfl
theorem qeJ {l : List RecS} {w : World} {hi : Nat} {A : Option Addr} (h : RowR w hi A l) : ∀ r ∈ l, r.first < 18446744073709551616 ∧ r.last < 18446744073709551616 ∧ r.began < 18446744073709551616 := by
 obtain ⟨ms, rfl, _, ho⟩ := h
 intro r hr
 obtain ⟨x, hx, rfl⟩ := List.mem_map.1 hr
 exact ⟨(ho x hx).first, (ho x hx).last, (ho x hx).began⟩
theorem q8d {s : q2t} {x : RecS} {M : Nat} (h1 : s.first < M ∧ s.reach < M) (h2 : q0A x < M) : (q0v s x).first < M ∧ (q0v s x).reach < M := ⟨h1.1, by show max s.reach (q0A x) < M; omega⟩
theorem q6V {s : q2t} {x : RecS} {M : Nat} (h1 : s.first < M ∧ s.reach < M) (h2 : x.first < M) : (q0i s x).first < M ∧ (q0i s x).reach < M := ⟨by show (if _ then _ else _) < M; split <;> omega, h1.2⟩
theorem q9R (K : q9u) (l : List RecS) (A : Option Addr) (c : Nat) (x : MR) (w : World) (hl : okRs l) (hox : okR x.r) (h : ChR w w.heap.size A c l) (hx : OkMR w w.heap.size x) :
    Calls Tryz.prog 135 #[.slice A l.length c, q0u x] w fun r w' => r = .returned (q3U (q1M l x.r)) ∧ Below w.heap.size w w' := by
  have hll := h.len
  have HL := qh h
  have HO := qh hl
  have HBn := qh (qeJ h.2.2.2)
  obtain ⟨⟨tf, tl, tb, to_, tr, tw⟩, tA, tc, tB, td⟩ := x
  unfold q0u
  have HT := qh hx
  have HOt := qh (show tr.length ≤ 1000 ∧ tw.length ≤ 1000 from hox)
  have htb := hx.began
  simp only at htb HT
  have HTb := qh htb
  clear h hl hox hx htb
  obtain ⟨w1, hw1⟩ : ∃ y, w.alloc (.cells #[.int .u64 tf, .int .u64 tl, .int .u64 tb, .int .u64 to_, .slice tA tr.length tc, .slice tB tw.length td] 86) = y := ⟨_, rfl⟩
  have hs1 : w1.heap.size = w.heap.size + 1 := by rw [← hw1]; simp
  have hp1 : w1.heap[w.heap.size]? = some (.cells #[.int .u64 tf, .int .u64 tl, .int .u64 tb, .int .u64 to_, .slice tA tr.length tc, .slice tB tw.length td] 86 (0, 0)) := by rw [← hw1]; exact heap_alloc_new w _
  have hb1 : Below w.heap.size w w1 := by rw [← hw1]; exact (Below.refl _ w).alloc (Nat.le_refl _) _
  obtain ⟨w2, hw2⟩ : ∃ y, w1.setCell ⟨w.heap.size, 1, none⟩ (.int .u64 18446744073709551615) = y := ⟨_, rfl⟩
  have hp2 : w2.heap[w.heap.size]? = some (.cells #[.int .u64 tf, .int .u64 18446744073709551615, .int .u64 tb, .int .u64 to_, .slice tA tr.length tc, .slice tB tw.length td] 86 (0, 0)) := by rw [← hw2, q1n hp1 1]; rfl
  have hb2 : Below w.heap.size w w2 := by rw [← hw2]; exact hb1.setCell (Nat.le_refl _) _
  have hs2 : w2.heap.size = w.heap.size + 1 := by rw [← hw2, ← hs1]; simp [World.setCell]
  obtain ⟨w3, hw3⟩ : ∃ y, w2.alloc (.cells #[.bool false, .bool false, .int .u64 0, .int .u64 0] 239) = y := ⟨_, rfl⟩
  have hp3 : w3.heap[w.heap.size]? = some (.cells #[.int .u64 tf, .int .u64 18446744073709551615, .int .u64 tb, .int .u64 to_, .slice tA tr.length tc, .slice tB tw.length td] 86 (0, 0)) := by rw [← hw3]; exact q0G hp2 _
  have hb3 : Below w.heap.size w w3 := by rw [← hw3]; exact hb2.alloc hb2.size _
  have hsd3 : q1H w3 (w.heap.size + 1) qgp := by
    have h := heap_alloc_new w2 (.cells #[.bool false, .bool false, .int .u64 0, .int .u64 0] 239)
    rw [hw3, hs2] at h
    exact h
  have HW1 := qh hw1
  have HW2 := qh hw2
  have HW3 := qh hw3
  have HP1 := qh hp1
  have HS2 := qh hs2
  have HP3 := qh hp3
  have HB3 := qh hb3
  have HS3 := qh hsd3
  clear hw1 hw2 hw3 hs1 hp1 hb1 hp2 hb2 hs2 hp3 hb3 hsd3
  go_enter Tryz.func135, Tryz.ntmps135
  go_upto_region 1 with fail
  rw [HW1.out]
  have q1 := (q0O HP1.out).2.1
  have f1 := q02 HP1.out 1
  go_step3
  go_upto_region 2 with fail
  rw [HW2.out]
  clear q1 f1 HW1 HP1
  go_upto_region 4 with fail
  rw [HW3.out, HS2.out]
  clear HW2 HW3 HS2
  go_wp2_with fail
  (try go_step3)
  go_wp2_with fail
  go_loopg [8, 15] l.length (fun q e i wr => ∃ j : Nat, j + q = l.length ∧ i = .int .i64 j ∧ e = .int .i64 0 ∧ wr.heap[w.heap.size]? = some (.cells #[.int .u64 tf, .int .u64 18446744073709551615, .int .u64 tb, .int .u64 to_, .slice tA tr.length tc, .slice tB tw.length td] 86 (0, 0)) ∧ q1H wr (w.heap.size + 1) (q25 l ⟨tf, tl, tb, to_, tr, tw⟩ j) ∧ qbX l ⟨tf, tl, tb, to_, tr, tw⟩ j ∧ q1B (q25 l ⟨tf, tl, tb, to_, tr, tw⟩ j) = false ∧ Below w.heap.size w wr)
  case atStart => exact ⟨0, by omega, rfl, rfl, HP3.out, HS3.out, qbZ _ _, rfl, HB3.out⟩
  case round =>
    obtain ⟨j, hk, rfl, rfl, hp, hs, hno, hdg, hb⟩ := hrel
    obtain ⟨wo, hwo⟩ : ∃ y, y = wr := ⟨_, rfl⟩
    subst hwo
    have HK := qh hk
    have HP := qh hp
    have HS := qh hs
    have HNo := qh hno
    have HDg := qh hdg
    have HB := qh hb
    have HSz := qh (q00 hs)
    clear hk hp hs hno hdg hb
    by_cases hj : j < l.length
    · have hlt : decide ((j : Int) < (l.length : Int)) = true := by simpa using hj
      have hlt3 : decide (j < l.length) = true := by simpa using hj
      obtain ⟨b, o, rfl, hbl, x, hx, hokx, p0, p1, p2, p3, p4, p5⟩ := HL.out.2.2.2.at_ hj
      have c0 := (HB.out.cell (p := ⟨b, o + j * 6, none⟩) hbl).trans p0
      have c1 := (HB.out.cell (p := ⟨b, o + j * 6 + 1, none⟩) hbl).trans p1
      have c2 := (HB.out.cell (p := ⟨b, o + j * 6 + 2, none⟩) hbl).trans p2
      have c3 := (HB.out.cell (p := ⟨b, o + j * 6 + 3, none⟩) hbl).trans p3
      have c4 := (HB.out.cell (p := ⟨b, o + j * 6 + 4, none⟩) hbl).trans p4
      have c5 := (HB.out.cell (p := ⟨b, o + j * 6 + 5, none⟩) hbl).trans p5
      clear p0 p1 p2 p3 p4 p5
      have hoxr : okR x.r := by rw [hx]; exact HO.out.mem (List.getElem_mem hj)
      have HNx := qh (show q25 l ⟨tf, tl, tb, to_, tr, tw⟩ (j + 1) = q5b ⟨tf, tl, tb, to_, tr, tw⟩ (q25 l ⟨tf, tl, tb, to_, tr, tw⟩ j) x.r by rw [hx]; exact q9g hj)
      have HPD := qh (fun h : q1B (q25 l ⟨tf, tl, tb, to_, tr, tw⟩ (j + 1)) = true => qaj (l := l) (t := ⟨tf, tl, tb, to_, tr, tw⟩) (j := j + 1) (by omega) h)
      have HPO := qh (fun (h1 : q1I ⟨tf, tl, tb, to_, tr, tw⟩ x.r = true) (h2 : outB ⟨tf, tl, tb, to_, tr, tw⟩ x.r = true) => qfi (l := l) (t := ⟨tf, tl, tb, to_, tr, tw⟩) hj (by rw [← hx]; exact h1) (by rw [← hx]; exact h2))
      have HNN := qh (fun (h1 : q1I ⟨tf, tl, tb, to_, tr, tw⟩ x.r = true → outB ⟨tf, tl, tb, to_, tr, tw⟩ x.r = false) => qbY HNo.out hj (by rw [← hx]; exact h1))
      have HBd := qh (qft (l := l) (t := ⟨tf, tl, tb, to_, tr, tw⟩) (j := j) (Nat.le_of_lt hj) HBn.out (by decide))
      have HOk := qh hokx
      have HOx := qh hoxr
      have HRl := qh (qb6 hokx)
      clear hx hokx hoxr
      obtain ⟨sd, hsd⟩ : ∃ s, q25 l ⟨tf, tl, tb, to_, tr, tw⟩ j = s := ⟨_, rfl⟩
      rw [hsd] at HS HDg HNx HBd
      clear hsd
      have hxo := HOk.out.out
      obtain ⟨⟨xf, xl, xb, xo, xr, xw⟩, xA, xc, xB, xd⟩ := x
      simp only at c0 c1 c2 c3 c4 c5 hxo HOk HOx HNx HPO HNN HRl
      obtain ⟨wt, hwt⟩ : ∃ y, wo.alloc (.cells #[.int .u64 xf, .int .u64 xl, .int .u64 xb, .int .u64 xo, .slice xA xr.length xc, .slice xB xw.length xd] 86) = y := ⟨_, rfl⟩
      have hbt : Below wo.heap.size wo wt := by rw [← hwt]; exact (Below.refl _ wo).alloc (Nat.le_refl _) _
      have hxt : wt.heap[wo.heap.size]? = some (.cells #[.int .u64 xf, .int .u64 xl, .int .u64 xb, .int .u64 xo, .slice xA xr.length xc, .slice xB xw.length xd] 86 (0, 0)) := by rw [← hwt]; exact heap_alloc_new wo _
      have HXt := qh hxt
      have HPt := qh (q01 HP.out hbt (q00 HP.out))
      have HSt := qh (show q1H wt (w.heap.size + 1) sd from q01 HS.out hbt HSz.out)
      have HBt := qh (HB.out.trans (hbt.mono HB.out.size))
      have HWt := qh hwt
      have hTell := qfy K ⟨⟨xf, xl, xb, xo, xr, xw⟩, xA, xc, xB, xd⟩ tf tl tb to_ tr tw tA tB tc td 18446744073709551615 w.heap.size wt HOx.out (HOk.out.below HBt.out (Nat.le_refl _) HBt.out.size) HOt.out HTb.out (HT.out.reads.below HBt.out (Nat.le_refl _) HBt.out.size) (HT.out.writes.below HBt.out (Nat.le_refl _) HBt.out.size) HPt.out
      unfold q0u at hTell
      simp only at hTell
      have HTell := qh hTell
      clear hwt hbt hxt hTell
      go_upto_region 8 with fail
      rw [HWt.out]
      clear HWt c0 c1 c2 c3 c4 c5
      obtain ⟨z0, z1, z2, z3, z4, z5⟩ := q0O HXt.out
      go_wp2_with fail
      refine HTell.out.mono ?_
      rintro r w4 ⟨rfl, hb4⟩
      have HB4 := qh (HBt.out.trans (hb4.mono HBt.out.size))
      have HX4 := qh (q01 HXt.out hb4 (q00 HXt.out))
      have HP4 := qh (q01 HPt.out hb4 (q00 HPt.out))
      have HS4 := qh (show q1H w4 (w.heap.size + 1) sd from q01 HSt.out hb4 (q00 HSt.out))
      clear hb4 z0 z1 z2 z3 z4 z5 HTell HXt HPt HSt
      cases e1 : q1h ⟨tf, tl, tb, to_, tr, tw⟩ ⟨xf, xl, xb, xo, xr, xw⟩ with
      | false =>
        cases e2 : q1I ⟨tf, tl, tb, to_, tr, tw⟩ ⟨xf, xl, xb, xo, xr, xw⟩ with
        | false =>
          have HE2 := qh e2
          have HSt := qh (qei (t := ⟨tf, tl, tb, to_, tr, tw⟩) (r := ⟨xf, xl, xb, xo, xr, xw⟩) (s := sd) e1 e2)
          rw [show q56 ⟨tf, tl, tb, to_, tr, tw⟩ ⟨xf, xl, xb, xo, xr, xw⟩ = 0 by unfold q56; rw [e1, e2]; rfl]
          clear e1 e2
          go_wp2_with fail
          go_roundg (gk - 1)
          case measure => have := HK.out; omega
          case rel => exact ⟨j + 1, by have := HK.out; omega, by go_num, rfl, HP4.out, by rw [HNx.out, HSt.out]; exact HS4.out, HNN.out (fun h => by rw [HE2.out] at h; cases h), by rw [HNx.out, HSt.out]; exact HDg.out, HB4.out⟩
        | true =>
          have HE2 := qh e2
          have HSt := qh (qar (t := ⟨tf, tl, tb, to_, tr, tw⟩) (r := ⟨xf, xl, xb, xo, xr, xw⟩) (s := sd) e1 e2)
          rw [show q56 ⟨tf, tl, tb, to_, tr, tw⟩ ⟨xf, xl, xb, xo, xr, xw⟩ = 2 by unfold q56; rw [e1, e2]; rfl]
          clear e1 e2
          have BND4 := HBd.out
          have BND6 := q6V (x := ⟨xf, xl, xb, xo, xr, xw⟩) BND4 HOk.out.first
          obtain ⟨z0, z1, z2, z3, z4, z5⟩ := q0O HX4.out
          have HT9 := q4r ⟨⟨xf, xl, xb, xo, xr, xw⟩, xA, xc, xB, xd⟩ sd (w.heap.size + 1) w4 (HOk.out.below HB4.out (Nat.le_refl _) HB4.out.size) HS4.out BND4.2 BND4.1
          unfold q0u at HT9
          simp only at HT9
          have HTh := qh HT9
          clear HT9
          go_wp2_with fail
          refine HTh.out.mono ?_
          rintro r w6 ⟨rfl, hs6, hm6⟩
          have HB6 := qh (HB4.out.trans (hm6.below HB4.out.size (by omega)))
          have HX6 := qh ((hm6.block _ (q00 HX4.out) (by have := HSz.out; omega)).trans HX4.out)
          have HP6 := qh ((hm6.block _ (q00 HP4.out) (by omega)).trans HP4.out)
          have HS6 := qh hs6
          clear hs6 hm6 z0 z1 z2 z3 z4 z5 HTh
          have HC9 := qh (fun (W : World) (h : Below w6.heap.size w6 W) => And.intro (q0O (q01 HX6.out h (q00 HX6.out))) (q0O (q01 HP6.out h (q00 HP6.out))))
          have hD := fun (W : World) (h : Below w6.heap.size w6 W) => (q53 (q0i sd ⟨xf, xl, xb, xo, xr, xw⟩) (w.heap.size + 1) W (q01 HS6.out h (q00 HS6.out)) BND6.2 BND6.1).mono fun r w' (q : r = .returned (.bool (q1B (q0i sd ⟨xf, xl, xb, xo, xr, xw⟩))) ∧ Below W.heap.size W w') => (⟨q.1, h.trans (q.2.mono h.size)⟩ : r = .returned (.bool (q1B (q0i sd ⟨xf, xl, xb, xo, xr, xw⟩))) ∧ Below w6.heap.size w6 w')
          have hR := fun (W : World) (h : Below w6.heap.size w6 W) => (q6z ⟨⟨tf, 18446744073709551615, tb, to_, tr, tw⟩, tA, tc, tB, td⟩ W (by
            have hk := HT.out.below (HB6.out.trans (h.mono HB6.out.size)) (Nat.le_refl _) (Nat.le_trans HB6.out.size h.size)
            exact ⟨hk.first, (by show 18446744073709551615 < 18446744073709551616; omega), hk.began, hk.out, hk.reads, hk.writes⟩)).mono fun r w' (q : r = .returned (.int .u64 (q0A ⟨tf, 18446744073709551615, tb, to_, tr, tw⟩ : Nat)) ∧ Below W.heap.size W w') => (⟨q.1, h.trans (q.2.mono h.size)⟩ : r = .returned (.int .u64 (q0A ⟨tf, 18446744073709551615, tb, to_, tr, tw⟩ : Nat)) ∧ Below w6.heap.size w6 w')
          unfold q0u at hR
          simp only at hR
          rw [show ((18446744073709551615 : Nat) : Int) = 18446744073709551615 from rfl] at hR
          have HOut := qh (q94 ⟨tf, tl, tb, to_, tr, tw⟩ ⟨xf, xl, xb, xo, xr, xw⟩ hxo)
          have hrt : q0A ⟨tf, 18446744073709551615, tb, to_, tr, tw⟩ < 18446744073709551616 := by
            have := HTb.out
            unfold q0A
            simp only
            split <;> omega
          simp only at HOut
          generalize q0A ⟨tf, 18446744073709551615, tb, to_, tr, tw⟩ = RT at *
          have HRe := qh hR
          cases hd : q1B (q0i sd ⟨xf, xl, xb, xo, xr, xw⟩) with
          | true =>
            rw [hd] at hD
            have HD9 := qh hD
            have HF := qh (HPD.out (by rw [HNx.out, HSt.out]; exact hd))
            clear hd hD hR hrt
            go_wp2_with fail
            refine q04 (C := fun W => Below w6.heap.size w6 W) (by kernel_rfl) (by kernel_rfl) ((Below.refl _ _).drew) ?_
            repeat (
              refine no_implicit_lambda% (wpQuiet_step ?_)
              intro K hK
              go_simp
              first
              | (refine no_implicit_lambda% (hK _ ?_); clear hK K)
              | (apply Exists.intro
                 refine ⟨fun _ => ?_, hK _ ?_⟩
                 (first
                     | (intro hw; with_reducible exact HD9.out _ hw)
                     | (intro hw; with_reducible exact HRe.out _ hw)
                     | (intro hw; obtain ⟨⟨z0, z1, z2, z3, z4, z5⟩, ⟨y0, y1, y2, y3, y4, y5⟩⟩ := HC9.out _ hw; go_simp; with_reducible exact ⟨rfl, rfl⟩)
                     | (intro hw; obtain ⟨⟨z0, z1, z2, z3, z4, z5⟩, ⟨y0, y1, y2, y3, y4, y5⟩⟩ := HC9.out _ hw; go_simp; with_reducible rfl)
                     | (intro _; with_reducible rfl)
                     | (intro hw; go_simp; with_reducible exact ⟨rfl, rfl⟩)
                     | (intro hw; go_simp; with_reducible exact rfl))
                 clear hK K))
            refine wpQuiet_nil ?_
            intro w8 hb8
            have HB8 := qh (HB6.out.trans (hb8.mono HB6.out.size))
            have HP8 := qh (q01 HP6.out hb8 (q00 HP6.out))
            have HS8 := qh (show q1H w8 (w.heap.size + 1) (q0i sd ⟨xf, xl, xb, xo, xr, xw⟩) from q01 HS6.out hb8 (q00 HS6.out))
            clear hb8
            go_wp2_with fail
            (try rw [Exit.noGoto_ret])
            refine bodyPost_ret (v := .tuple #[.int .u64 0, .int .i64 101]) (by simp [results, Tryz.results135, go_sem]) rfl ⟨?_, HB8.out⟩
            rw [HF.out]
            rfl
          | false =>
            rw [hd] at hD
            have HD9 := qh hD
            have HDf := qh hd
            clear hd hD hR
            by_cases h0 : xo = 0
            · have d1 : ((xo : Int) == 0) = true := by rw [beq_iff_eq]; omega
              have d2 : ((xo : Int) != 0) = false := by rw [bne, d1]; rfl
              have HN2 := qh (HNN.out (fun _ => by rw [HOut.out, h0]; rfl))
              clear h0 hrt
              go_wp2_with fail
              refine q04 (C := fun W => Below w6.heap.size w6 W) (by kernel_rfl) (by kernel_rfl) ((Below.refl _ _).drew) ?_
              repeat (
                refine no_implicit_lambda% (wpQuiet_step ?_)
                intro K hK
                go_simp
                first
                | (refine no_implicit_lambda% (hK _ ?_); clear hK K)
                | (apply Exists.intro
                   refine ⟨fun _ => ?_, hK _ ?_⟩
                   (first
                       | (intro hw; with_reducible exact HD9.out _ hw)
                       | (intro hw; with_reducible exact HRe.out _ hw)
                       | (intro hw; obtain ⟨⟨z0, z1, z2, z3, z4, z5⟩, ⟨y0, y1, y2, y3, y4, y5⟩⟩ := HC9.out _ hw; go_simp; with_reducible exact ⟨rfl, rfl⟩)
                       | (intro hw; obtain ⟨⟨z0, z1, z2, z3, z4, z5⟩, ⟨y0, y1, y2, y3, y4, y5⟩⟩ := HC9.out _ hw; go_simp; with_reducible rfl)
                       | (intro _; with_reducible rfl)
                       | (intro hw; go_simp; with_reducible exact ⟨rfl, rfl⟩)
                       | (intro hw; go_simp; with_reducible exact rfl))
                   clear hK K))
              refine wpQuiet_nil ?_
              intro w8 hb8
              have HB8 := qh (HB6.out.trans (hb8.mono HB6.out.size))
              have HP8 := qh (q01 HP6.out hb8 (q00 HP6.out))
              have HS8 := qh (show q1H w8 (w.heap.size + 1) (q0i sd ⟨xf, xl, xb, xo, xr, xw⟩) from q01 HS6.out hb8 (q00 HS6.out))
              clear hb8
              go_wp2_with fail
              go_roundg (gk - 1)
              case measure => have := HK.out; omega
              case rel => exact ⟨j + 1, by have := HK.out; omega, by go_num, rfl, HP8.out, by rw [HNx.out, HSt.out]; exact HS8.out, HN2.out, by rw [HNx.out, HSt.out]; exact HDf.out, HB8.out⟩
            · have d1 : ((xo : Int) == 0) = false := by rw [beq_eq_false_iff_ne]; omega
              have d2 : ((xo : Int) != 0) = true := by rw [bne, d1]; rfl
              by_cases h1 : xo ≤ RT
              · have e1 : decide ((xo : Int) ≤ (RT : Int)) = true := by rw [decide_eq_true_iff]; omega
                have e2 : decide (xo ≤ RT) = true := by rw [decide_eq_true_iff]; omega
                have HF := qh (HPO.out HE2.out (by rw [HOut.out, e2, show (xo == 0) = false from by rw [beq_eq_false_iff_ne]; exact h0]; rfl))
                clear h0 h1 hrt
                go_wp2_with fail
                refine q04 (C := fun W => Below w6.heap.size w6 W) (by kernel_rfl) (by kernel_rfl) ((Below.refl _ _).drew) ?_
                repeat (
                  refine no_implicit_lambda% (wpQuiet_step ?_)
                  intro K hK
                  go_simp
                  first
                  | (refine no_implicit_lambda% (hK _ ?_); clear hK K)
                  | (apply Exists.intro
                     refine ⟨fun _ => ?_, hK _ ?_⟩
                     (first
                         | (intro hw; with_reducible exact HD9.out _ hw)
                         | (intro hw; with_reducible exact HRe.out _ hw)
                         | (intro hw; obtain ⟨⟨z0, z1, z2, z3, z4, z5⟩, ⟨y0, y1, y2, y3, y4, y5⟩⟩ := HC9.out _ hw; go_simp; with_reducible exact ⟨rfl, rfl⟩)
                         | (intro hw; obtain ⟨⟨z0, z1, z2, z3, z4, z5⟩, ⟨y0, y1, y2, y3, y4, y5⟩⟩ := HC9.out _ hw; go_simp; with_reducible rfl)
                         | (intro _; with_reducible rfl)
                         | (intro hw; go_simp; with_reducible exact ⟨rfl, rfl⟩)
                         | (intro hw; go_simp; with_reducible exact rfl))
                     clear hK K))
                refine wpQuiet_nil ?_
                intro w8 hb8
                have HB8 := qh (HB6.out.trans (hb8.mono HB6.out.size))
                have HP8 := qh (q01 HP6.out hb8 (q00 HP6.out))
                have HS8 := qh (show q1H w8 (w.heap.size + 1) (q0i sd ⟨xf, xl, xb, xo, xr, xw⟩) from q01 HS6.out hb8 (q00 HS6.out))
                clear hb8
                go_wp2_with fail
                (try rw [Exit.noGoto_ret])
                refine bodyPost_ret (v := .tuple #[.int .u64 0, .int .i64 101]) (by simp [results, Tryz.results135, go_sem]) rfl ⟨?_, HB8.out⟩
                rw [HF.out]
                rfl
              · have e1 : decide ((xo : Int) ≤ (RT : Int)) = false := by rw [decide_eq_false_iff_not]; omega
                have e2 : decide (xo ≤ RT) = false := by rw [decide_eq_false_iff_not]; omega
                have HN2 := qh (HNN.out (fun _ => by rw [HOut.out, e2, Bool.and_false]))
                clear h0 h1 hrt
                go_wp2_with fail
                refine q04 (C := fun W => Below w6.heap.size w6 W) (by kernel_rfl) (by kernel_rfl) ((Below.refl _ _).drew) ?_
                repeat (
                  refine no_implicit_lambda% (wpQuiet_step ?_)
                  intro K hK
                  go_simp
                  first
                  | (refine no_implicit_lambda% (hK _ ?_); clear hK K)
                  | (apply Exists.intro
                     refine ⟨fun _ => ?_, hK _ ?_⟩
                     (first
                         | (intro hw; with_reducible exact HD9.out _ hw)
                         | (intro hw; with_reducible exact HRe.out _ hw)
                         | (intro hw; obtain ⟨⟨z0, z1, z2, z3, z4, z5⟩, ⟨y0, y1, y2, y3, y4, y5⟩⟩ := HC9.out _ hw; go_simp; with_reducible exact ⟨rfl, rfl⟩)
                         | (intro hw; obtain ⟨⟨z0, z1, z2, z3, z4, z5⟩, ⟨y0, y1, y2, y3, y4, y5⟩⟩ := HC9.out _ hw; go_simp; with_reducible rfl)
                         | (intro _; with_reducible rfl)
                         | (intro hw; go_simp; with_reducible exact ⟨rfl, rfl⟩)
                         | (intro hw; go_simp; with_reducible exact rfl))
                     clear hK K))
                refine wpQuiet_nil ?_
                intro w8 hb8
                have HB8 := qh (HB6.out.trans (hb8.mono HB6.out.size))
                have HP8 := qh (q01 HP6.out hb8 (q00 HP6.out))
                have HS8 := qh (show q1H w8 (w.heap.size + 1) (q0i sd ⟨xf, xl, xb, xo, xr, xw⟩) from q01 HS6.out hb8 (q00 HS6.out))
                clear hb8
                go_wp2_with fail
                go_roundg (gk - 1)
                case measure => have := HK.out; omega
                case rel => exact ⟨j + 1, by have := HK.out; omega, by go_num, rfl, HP8.out, by rw [HNx.out, HSt.out]; exact HS8.out, HN2.out, by rw [HNx.out, HSt.out]; exact HDf.out, HB8.out⟩
      | true =>
        cases e2 : q1I ⟨tf, tl, tb, to_, tr, tw⟩ ⟨xf, xl, xb, xo, xr, xw⟩ with
        | false =>
          have HE2 := qh e2
          have HSt := qh (qcj (t := ⟨tf, tl, tb, to_, tr, tw⟩) (r := ⟨xf, xl, xb, xo, xr, xw⟩) (s := sd) e1 e2)
          rw [show q56 ⟨tf, tl, tb, to_, tr, tw⟩ ⟨xf, xl, xb, xo, xr, xw⟩ = 1 by unfold q56; rw [e1, e2]; rfl]
          clear e1 e2
          have BND4 := HBd.out
          have BND5 := q8d (x := ⟨xf, xl, xb, xo, xr, xw⟩) BND4 HRl.out
          obtain ⟨z0, z1, z2, z3, z4, z5⟩ := q0O HX4.out
          have HT9 := q5h ⟨⟨xf, xl, xb, xo, xr, xw⟩, xA, xc, xB, xd⟩ sd (w.heap.size + 1) w4 (HOk.out.below HB4.out (Nat.le_refl _) HB4.out.size) HS4.out BND4.2 BND4.1
          unfold q0u at HT9
          simp only at HT9
          have HTh := qh HT9
          clear HT9
          go_wp2_with fail
          refine HTh.out.mono ?_
          rintro r w5 ⟨rfl, hs5, hm5⟩
          have HB5 := qh (HB4.out.trans (hm5.below HB4.out.size (by omega)))
          have HX5 := qh ((hm5.block _ (q00 HX4.out) (by have := HSz.out; omega)).trans HX4.out)
          have HP5 := qh ((hm5.block _ (q00 HP4.out) (by omega)).trans HP4.out)
          have HS5 := qh hs5
          clear hs5 hm5 z0 z1 z2 z3 z4 z5 HTh
          have HD9 := qh (q53 (q0v sd ⟨xf, xl, xb, xo, xr, xw⟩) (w.heap.size + 1) w5 HS5.out BND5.2 BND5.1)
          go_wp2_with fail
          refine HD9.out.mono ?_
          rintro r w6 ⟨rfl, hb6⟩
          have HB6 := qh (HB5.out.trans (hb6.mono HB5.out.size))
          have HP6 := qh (q01 HP5.out hb6 (q00 HP5.out))
          have HS6 := qh (show q1H w6 (w.heap.size + 1) (q0v sd ⟨xf, xl, xb, xo, xr, xw⟩) from q01 HS5.out hb6 (q00 HS5.out))
          clear hb6 HD9
          cases hd : q1B (q0v sd ⟨xf, xl, xb, xo, xr, xw⟩) with
          | true =>
            have HF := qh (HPD.out (by rw [HNx.out, HSt.out]; exact hd))
            clear hd
            go_wp2_with fail
            (try rw [Exit.noGoto_ret])
            refine bodyPost_ret (v := .tuple #[.int .u64 0, .int .i64 101]) (by simp [results, Tryz.results135, go_sem]) rfl ⟨?_, HB6.out⟩
            rw [HF.out]
            rfl
          | false =>
            have HD := qh hd
            clear hd
            go_wp2_with fail
            go_roundg (gk - 1)
            case measure => have := HK.out; omega
            case rel => exact ⟨j + 1, by have := HK.out; omega, by go_num, rfl, HP6.out, by rw [HNx.out, HSt.out]; exact HS6.out, HNN.out (fun h => by rw [HE2.out] at h; cases h), by rw [HNx.out, HSt.out]; exact HD.out, HB6.out⟩
        | true =>
          have HE2 := qh e2
          have HSt := qh (qeg (t := ⟨tf, tl, tb, to_, tr, tw⟩) (r := ⟨xf, xl, xb, xo, xr, xw⟩) (s := sd) e1 e2)
          rw [show q56 ⟨tf, tl, tb, to_, tr, tw⟩ ⟨xf, xl, xb, xo, xr, xw⟩ = 3 by unfold q56; rw [e1, e2]; rfl]
          clear e1 e2
          have BND4 := HBd.out
          have BND5 := q8d (x := ⟨xf, xl, xb, xo, xr, xw⟩) BND4 HRl.out
          have BND6 := q6V (x := ⟨xf, xl, xb, xo, xr, xw⟩) BND5 HOk.out.first
          obtain ⟨z0, z1, z2, z3, z4, z5⟩ := q0O HX4.out
          have HT9 := q5h ⟨⟨xf, xl, xb, xo, xr, xw⟩, xA, xc, xB, xd⟩ sd (w.heap.size + 1) w4 (HOk.out.below HB4.out (Nat.le_refl _) HB4.out.size) HS4.out BND4.2 BND4.1
          unfold q0u at HT9
          simp only at HT9
          have HTh := qh HT9
          clear HT9
          go_wp2_with fail
          refine HTh.out.mono ?_
          rintro r w5 ⟨rfl, hs5, hm5⟩
          have HB5 := qh (HB4.out.trans (hm5.below HB4.out.size (by omega)))
          have HX5 := qh ((hm5.block _ (q00 HX4.out) (by have := HSz.out; omega)).trans HX4.out)
          have HP5 := qh ((hm5.block _ (q00 HP4.out) (by omega)).trans HP4.out)
          have HS5 := qh hs5
          clear hs5 hm5 z0 z1 z2 z3 z4 z5 HTh
          obtain ⟨z0, z1, z2, z3, z4, z5⟩ := q0O HX5.out
          have HT9 := q4r ⟨⟨xf, xl, xb, xo, xr, xw⟩, xA, xc, xB, xd⟩ (q0v sd ⟨xf, xl, xb, xo, xr, xw⟩) (w.heap.size + 1) w5 (HOk.out.below HB5.out (Nat.le_refl _) HB5.out.size) HS5.out BND5.2 BND5.1
          unfold q0u at HT9
          simp only at HT9
          have HTh := qh HT9
          clear HT9
          go_wp2_with fail
          refine HTh.out.mono ?_
          rintro r w6 ⟨rfl, hs6, hm6⟩
          have HB6 := qh (HB5.out.trans (hm6.below HB5.out.size (by omega)))
          have HX6 := qh ((hm6.block _ (q00 HX5.out) (by have := HSz.out; omega)).trans HX5.out)
          have HP6 := qh ((hm6.block _ (q00 HP5.out) (by omega)).trans HP5.out)
          have HS6 := qh hs6
          clear hs6 hm6 z0 z1 z2 z3 z4 z5 HTh
          have HC9 := qh (fun (W : World) (h : Below w6.heap.size w6 W) => And.intro (q0O (q01 HX6.out h (q00 HX6.out))) (q0O (q01 HP6.out h (q00 HP6.out))))
          have hD := fun (W : World) (h : Below w6.heap.size w6 W) => (q53 (q0i (q0v sd ⟨xf, xl, xb, xo, xr, xw⟩) ⟨xf, xl, xb, xo, xr, xw⟩) (w.heap.size + 1) W (q01 HS6.out h (q00 HS6.out)) BND6.2 BND6.1).mono fun r w' (q : r = .returned (.bool (q1B (q0i (q0v sd ⟨xf, xl, xb, xo, xr, xw⟩) ⟨xf, xl, xb, xo, xr, xw⟩))) ∧ Below W.heap.size W w') => (⟨q.1, h.trans (q.2.mono h.size)⟩ : r = .returned (.bool (q1B (q0i (q0v sd ⟨xf, xl, xb, xo, xr, xw⟩) ⟨xf, xl, xb, xo, xr, xw⟩))) ∧ Below w6.heap.size w6 w')
          have hR := fun (W : World) (h : Below w6.heap.size w6 W) => (q6z ⟨⟨tf, 18446744073709551615, tb, to_, tr, tw⟩, tA, tc, tB, td⟩ W (by
            have hk := HT.out.below (HB6.out.trans (h.mono HB6.out.size)) (Nat.le_refl _) (Nat.le_trans HB6.out.size h.size)
            exact ⟨hk.first, (by show 18446744073709551615 < 18446744073709551616; omega), hk.began, hk.out, hk.reads, hk.writes⟩)).mono fun r w' (q : r = .returned (.int .u64 (q0A ⟨tf, 18446744073709551615, tb, to_, tr, tw⟩ : Nat)) ∧ Below W.heap.size W w') => (⟨q.1, h.trans (q.2.mono h.size)⟩ : r = .returned (.int .u64 (q0A ⟨tf, 18446744073709551615, tb, to_, tr, tw⟩ : Nat)) ∧ Below w6.heap.size w6 w')
          unfold q0u at hR
          simp only at hR
          rw [show ((18446744073709551615 : Nat) : Int) = 18446744073709551615 from rfl] at hR
          have HOut := qh (q94 ⟨tf, tl, tb, to_, tr, tw⟩ ⟨xf, xl, xb, xo, xr, xw⟩ hxo)
          have hrt : q0A ⟨tf, 18446744073709551615, tb, to_, tr, tw⟩ < 18446744073709551616 := by
            have := HTb.out
            unfold q0A
            simp only
            split <;> omega
          simp only at HOut
          generalize q0A ⟨tf, 18446744073709551615, tb, to_, tr, tw⟩ = RT at *
          have HRe := qh hR
          cases hd : q1B (q0i (q0v sd ⟨xf, xl, xb, xo, xr, xw⟩) ⟨xf, xl, xb, xo, xr, xw⟩) with
          | true =>
            rw [hd] at hD
            have HD9 := qh hD
            have HF := qh (HPD.out (by rw [HNx.out, HSt.out]; exact hd))
            clear hd hD hR hrt
            go_wp2_with fail
            refine q04 (C := fun W => Below w6.heap.size w6 W) (by kernel_rfl) (by kernel_rfl) ((Below.refl _ _).drew) ?_
            repeat (
              refine no_implicit_lambda% (wpQuiet_step ?_)
              intro K hK
              go_simp
              first
              | (refine no_implicit_lambda% (hK _ ?_); clear hK K)
              | (apply Exists.intro
                 refine ⟨fun _ => ?_, hK _ ?_⟩
                 (first
                     | (intro hw; with_reducible exact HD9.out _ hw)
                     | (intro hw; with_reducible exact HRe.out _ hw)
                     | (intro hw; obtain ⟨⟨z0, z1, z2, z3, z4, z5⟩, ⟨y0, y1, y2, y3, y4, y5⟩⟩ := HC9.out _ hw; go_simp; with_reducible exact ⟨rfl, rfl⟩)
                     | (intro hw; obtain ⟨⟨z0, z1, z2, z3, z4, z5⟩, ⟨y0, y1, y2, y3, y4, y5⟩⟩ := HC9.out _ hw; go_simp; with_reducible rfl)
                     | (intro _; with_reducible rfl)
                     | (intro hw; go_simp; with_reducible exact ⟨rfl, rfl⟩)
                     | (intro hw; go_simp; with_reducible exact rfl))
                 clear hK K))
            refine wpQuiet_nil ?_
            intro w8 hb8
            have HB8 := qh (HB6.out.trans (hb8.mono HB6.out.size))
            have HP8 := qh (q01 HP6.out hb8 (q00 HP6.out))
            have HS8 := qh (show q1H w8 (w.heap.size + 1) (q0i (q0v sd ⟨xf, xl, xb, xo, xr, xw⟩) ⟨xf, xl, xb, xo, xr, xw⟩) from q01 HS6.out hb8 (q00 HS6.out))
            clear hb8
            go_wp2_with fail
            (try rw [Exit.noGoto_ret])
            refine bodyPost_ret (v := .tuple #[.int .u64 0, .int .i64 101]) (by simp [results, Tryz.results135, go_sem]) rfl ⟨?_, HB8.out⟩
            rw [HF.out]
            rfl
          | false =>
            rw [hd] at hD
            have HD9 := qh hD
            have HDf := qh hd
            clear hd hD hR
            by_cases h0 : xo = 0
            · have d1 : ((xo : Int) == 0) = true := by rw [beq_iff_eq]; omega
              have d2 : ((xo : Int) != 0) = false := by rw [bne, d1]; rfl
              have HN2 := qh (HNN.out (fun _ => by rw [HOut.out, h0]; rfl))
              clear h0 hrt
              go_wp2_with fail
              refine q04 (C := fun W => Below w6.heap.size w6 W) (by kernel_rfl) (by kernel_rfl) ((Below.refl _ _).drew) ?_
              repeat (
                refine no_implicit_lambda% (wpQuiet_step ?_)
                intro K hK
                go_simp
                first
                | (refine no_implicit_lambda% (hK _ ?_); clear hK K)
                | (apply Exists.intro
                   refine ⟨fun _ => ?_, hK _ ?_⟩
                   (first
                       | (intro hw; with_reducible exact HD9.out _ hw)
                       | (intro hw; with_reducible exact HRe.out _ hw)
                       | (intro hw; obtain ⟨⟨z0, z1, z2, z3, z4, z5⟩, ⟨y0, y1, y2, y3, y4, y5⟩⟩ := HC9.out _ hw; go_simp; with_reducible exact ⟨rfl, rfl⟩)
                       | (intro hw; obtain ⟨⟨z0, z1, z2, z3, z4, z5⟩, ⟨y0, y1, y2, y3, y4, y5⟩⟩ := HC9.out _ hw; go_simp; with_reducible rfl)
                       | (intro _; with_reducible rfl)
                       | (intro hw; go_simp; with_reducible exact ⟨rfl, rfl⟩)
                       | (intro hw; go_simp; with_reducible exact rfl))
                   clear hK K))
              refine wpQuiet_nil ?_
              intro w8 hb8
              have HB8 := qh (HB6.out.trans (hb8.mono HB6.out.size))
              have HP8 := qh (q01 HP6.out hb8 (q00 HP6.out))
              have HS8 := qh (show q1H w8 (w.heap.size + 1) (q0i (q0v sd ⟨xf, xl, xb, xo, xr, xw⟩) ⟨xf, xl, xb, xo, xr, xw⟩) from q01 HS6.out hb8 (q00 HS6.out))
              clear hb8
              go_wp2_with fail
              go_roundg (gk - 1)
              case measure => have := HK.out; omega
              case rel => exact ⟨j + 1, by have := HK.out; omega, by go_num, rfl, HP8.out, by rw [HNx.out, HSt.out]; exact HS8.out, HN2.out, by rw [HNx.out, HSt.out]; exact HDf.out, HB8.out⟩
            · have d1 : ((xo : Int) == 0) = false := by rw [beq_eq_false_iff_ne]; omega
              have d2 : ((xo : Int) != 0) = true := by rw [bne, d1]; rfl
              by_cases h1 : xo ≤ RT
              · have e1 : decide ((xo : Int) ≤ (RT : Int)) = true := by rw [decide_eq_true_iff]; omega
                have e2 : decide (xo ≤ RT) = true := by rw [decide_eq_true_iff]; omega
                have HF := qh (HPO.out HE2.out (by rw [HOut.out, e2, show (xo == 0) = false from by rw [beq_eq_false_iff_ne]; exact h0]; rfl))
                clear h0 h1 hrt
                go_wp2_with fail
                refine q04 (C := fun W => Below w6.heap.size w6 W) (by kernel_rfl) (by kernel_rfl) ((Below.refl _ _).drew) ?_
                repeat (
                  refine no_implicit_lambda% (wpQuiet_step ?_)
                  intro K hK
                  go_simp
                  first
                  | (refine no_implicit_lambda% (hK _ ?_); clear hK K)
                  | (apply Exists.intro
                     refine ⟨fun _ => ?_, hK _ ?_⟩
                     (first
                         | (intro hw; with_reducible exact HD9.out _ hw)
                         | (intro hw; with_reducible exact HRe.out _ hw)
                         | (intro hw; obtain ⟨⟨z0, z1, z2, z3, z4, z5⟩, ⟨y0, y1, y2, y3, y4, y5⟩⟩ := HC9.out _ hw; go_simp; with_reducible exact ⟨rfl, rfl⟩)
                         | (intro hw; obtain ⟨⟨z0, z1, z2, z3, z4, z5⟩, ⟨y0, y1, y2, y3, y4, y5⟩⟩ := HC9.out _ hw; go_simp; with_reducible rfl)
                         | (intro _; with_reducible rfl)
                         | (intro hw; go_simp; with_reducible exact ⟨rfl, rfl⟩)
                         | (intro hw; go_simp; with_reducible exact rfl))
                     clear hK K))
                refine wpQuiet_nil ?_
                intro w8 hb8
                have HB8 := qh (HB6.out.trans (hb8.mono HB6.out.size))
                have HP8 := qh (q01 HP6.out hb8 (q00 HP6.out))
                have HS8 := qh (show q1H w8 (w.heap.size + 1) (q0i (q0v sd ⟨xf, xl, xb, xo, xr, xw⟩) ⟨xf, xl, xb, xo, xr, xw⟩) from q01 HS6.out hb8 (q00 HS6.out))
                clear hb8
                go_wp2_with fail
                (try rw [Exit.noGoto_ret])
                refine bodyPost_ret (v := .tuple #[.int .u64 0, .int .i64 101]) (by simp [results, Tryz.results135, go_sem]) rfl ⟨?_, HB8.out⟩
                rw [HF.out]
                rfl
              · have e1 : decide ((xo : Int) ≤ (RT : Int)) = false := by rw [decide_eq_false_iff_not]; omega
                have e2 : decide (xo ≤ RT) = false := by rw [decide_eq_false_iff_not]; omega
                have HN2 := qh (HNN.out (fun _ => by rw [HOut.out, e2, Bool.and_false]))
                clear h0 h1 hrt
                go_wp2_with fail
                refine q04 (C := fun W => Below w6.heap.size w6 W) (by kernel_rfl) (by kernel_rfl) ((Below.refl _ _).drew) ?_
                repeat (
                  refine no_implicit_lambda% (wpQuiet_step ?_)
                  intro K hK
                  go_simp
                  first
                  | (refine no_implicit_lambda% (hK _ ?_); clear hK K)
                  | (apply Exists.intro
                     refine ⟨fun _ => ?_, hK _ ?_⟩
                     (first
                         | (intro hw; with_reducible exact HD9.out _ hw)
                         | (intro hw; with_reducible exact HRe.out _ hw)
                         | (intro hw; obtain ⟨⟨z0, z1, z2, z3, z4, z5⟩, ⟨y0, y1, y2, y3, y4, y5⟩⟩ := HC9.out _ hw; go_simp; with_reducible exact ⟨rfl, rfl⟩)
                         | (intro hw; obtain ⟨⟨z0, z1, z2, z3, z4, z5⟩, ⟨y0, y1, y2, y3, y4, y5⟩⟩ := HC9.out _ hw; go_simp; with_reducible rfl)
                         | (intro _; with_reducible rfl)
                         | (intro hw; go_simp; with_reducible exact ⟨rfl, rfl⟩)
                         | (intro hw; go_simp; with_reducible exact rfl))
                     clear hK K))
                refine wpQuiet_nil ?_
                intro w8 hb8
                have HB8 := qh (HB6.out.trans (hb8.mono HB6.out.size))
                have HP8 := qh (q01 HP6.out hb8 (q00 HP6.out))
                have HS8 := qh (show q1H w8 (w.heap.size + 1) (q0i (q0v sd ⟨xf, xl, xb, xo, xr, xw⟩) ⟨xf, xl, xb, xo, xr, xw⟩) from q01 HS6.out hb8 (q00 HS6.out))
                clear hb8
                go_wp2_with fail
                go_roundg (gk - 1)
                case measure => have := HK.out; omega
                case rel => exact ⟨j + 1, by have := HK.out; omega, by go_num, rfl, HP8.out, by rw [HNx.out, HSt.out]; exact HS8.out, HN2.out, by rw [HNx.out, HSt.out]; exact HDf.out, HB8.out⟩
    · have hj' : j = l.length := by have := HK.out; omega
      have hlt : decide ((j : Int) < (l.length : Int)) = false := by simpa using hj
      have hlt2 : decide (j < l.length) = false := by simpa using hj
      have HF := qh (qdW (l := l) (t := ⟨tf, tl, tb, to_, tr, tw⟩) hj' HDg.out HNo.out)
      have hs := HS.out
      unfold q1H at hs
      obtain ⟨q0, q1, q2, q3⟩ := q3y hs
      clear hj' hs
      go_wp2_with fail
      rw [Exit.noGoto_ret]
      refine bodyPost_ret (v := .tuple #[.int .u64 (q25 l ⟨tf, tl, tb, to_, tr, tw⟩ j).first, .int .i64 0]) (by simp [results, Tryz.results135, go_sem]) rfl ⟨?_, HB.out⟩
      rw [HF.out]
      rfl
end Go.Proofs.YtdpbllacfljmoaaGreat
