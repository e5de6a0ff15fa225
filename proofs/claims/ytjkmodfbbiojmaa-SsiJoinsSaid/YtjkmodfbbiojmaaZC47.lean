import Derived.Test.YtjkmodfbbiojmaaZC18
import Derived.Deep.DeepCutAuto
import Derived.Test.YtjkmodfbbiojmaaZC16
import Derived.Test.YtjkmodfbbiojmaaZC46
import Derived.Test.YtjkmodfbbiojmaaZC35
import Derived.Test.YtjkmodfbbiojmaaZC31
import Derived.Test.YtjkmodfbbiojmaaZC07
/-
  The walk of SsiJoins: any two records joined, any records forgotten and made fewer, and whether two lists are the same; they stay as they were.
-/
namespace Go.Proofs.Ytjkmodfbbiojmaa.ssiJoins
open Go.RowKit

theorem many_two {l : List RecS} (h0 : 0 < l.length) (h2 : 1 < l.length) : (l[0]'h0).reads.length + (l[0]'h0).writes.length + ((l[1]'h2).reads.length + (l[1]'h2).writes.length) ≤ manyR l := by
  cases l with
  | nil => simp at h0
  | cons p l =>
    cases l with
    | nil => simp at h2
    | cons q r =>
      rw [many_cons, many_cons]
      simp only [List.getElem_cons_zero, List.getElem_cons_succ]
      omega
theorem sameYesM {w : World} {l : List RecS} {A B : Option Addr} {c d : Nat} (ho : okRs l) (h1 : ChR w w.heap.size A c l) (h2 : ChR w w.heap.size B d l) : Calls Try.prog 13 #[.slice A l.length c, .slice B l.length d] w fun r w' => r = .returned (.bool true) ∧ Below w.heap.size w w' :=
  (refSameM_any l l A B c d w ho ho h1 h2).mono fun _ _ q => ⟨by rw [q.1]; unfold sameR; rw [decide_eq_true rfl], q.2⟩
set_option maxRecDepth 100000 in
set_option maxHeartbeats 16000000 in
theorem walk (K : SsiC) (l m : List RecS) (A B : Option Addr) (c d low : Nat) (n marks : Int) (w : World) (hl : ChR w w.heap.size A c l) (hm : ChR w w.heap.size B d m) (hlow : low < 18446744073709551616) (hn1 : -9223372036854775808 ≤ n) (hn2 : n ≤ 9223372036854775807) (hm1 : -9223372036854775808 ≤ marks) (hm2 : marks ≤ 9223372036854775807) :
    Calls Try.prog 3 #[.slice A l.length c, .slice B m.length d, .int .u64 low, .int .i64 n, .int .i64 marks] w fun r w' => r = .returned (.bool true) ∧ Below w.heap.size w w' := by
  have HK := Lib.hid K
  have HL := Lib.hid hl
  have HM := Lib.hid hm
  have HB := Lib.hid (Below.refl w.heap.size w)
  have HLow := Lib.hid hlow
  have HN1 := Lib.hid hn1
  have HN2 := Lib.hid hn2
  have HM1 := Lib.hid hm1
  have HM2 := Lib.hid hm2
  clear K hl hm hlow hn1 hn2 hm1 hm2
  cases hf : fewR l with
  | false =>
    have f := Lib.hid hf
    clear hf
    go_enter Try.func3, Try.ntmps3
    have HT := Lib.hid (liveM_any HK.out w)
    go_wp2_with fail
    refine HT.out.mono ?_
    rintro r w1 ⟨rfl, hb1⟩
    clear HT
    have HL := Lib.hid (HL.out.below hb1 (Nat.le_refl _) hb1.size)
    have HM := Lib.hid (HM.out.below hb1 (Nat.le_refl _) hb1.size)
    have HB := Lib.hid (HB.out.trans (hb1.mono HB.out.size))
    clear hb1
    have HT := Lib.hid (fewRno f.out HL.out)
    go_wp2_with fail
    refine HT.out.mono ?_
    rintro r w2 ⟨rfl, hb2⟩
    clear HT
    have HL := Lib.hid (HL.out.below hb2 (Nat.le_refl _) hb2.size)
    have HM := Lib.hid (HM.out.below hb2 (Nat.le_refl _) hb2.size)
    have HB := Lib.hid (HB.out.trans (hb2.mono HB.out.size))
    clear hb2
    have HT := Lib.hid (liveM_any HK.out w2)
    go_wp2_with fail
    refine HT.out.mono ?_
    rintro r w3 ⟨rfl, hb3⟩
    clear HT
    have HL := Lib.hid (HL.out.below hb3 (Nat.le_refl _) hb3.size)
    have HM := Lib.hid (HM.out.below hb3 (Nat.le_refl _) hb3.size)
    have HB := Lib.hid (HB.out.trans (hb3.mono HB.out.size))
    clear hb3
    go_wp2_with fail
    go_ret
    exact ⟨rfl, HB.out⟩
  | true =>
    cases hg : fewR m with
    | false =>
      have f := Lib.hid hf
      have g := Lib.hid hg
      clear hf hg
      go_enter Try.func3, Try.ntmps3
      have HT := Lib.hid (liveM_any HK.out w)
      go_wp2_with fail
      refine HT.out.mono ?_
      rintro r w1 ⟨rfl, hb1⟩
      clear HT
      have HL := Lib.hid (HL.out.below hb1 (Nat.le_refl _) hb1.size)
      have HM := Lib.hid (HM.out.below hb1 (Nat.le_refl _) hb1.size)
      have HB := Lib.hid (HB.out.trans (hb1.mono HB.out.size))
      clear hb1
      have HT := Lib.hid (fewRyes f.out HL.out)
      go_wp2_with fail
      refine HT.out.mono ?_
      rintro r w2 ⟨rfl, hb2⟩
      clear HT
      have HL := Lib.hid (HL.out.below hb2 (Nat.le_refl _) hb2.size)
      have HM := Lib.hid (HM.out.below hb2 (Nat.le_refl _) hb2.size)
      have HB := Lib.hid (HB.out.trans (hb2.mono HB.out.size))
      clear hb2
      have HT := Lib.hid (fewRno g.out HM.out)
      go_wp2_with fail
      refine HT.out.mono ?_
      rintro r w3 ⟨rfl, hb3⟩
      clear HT
      have HL := Lib.hid (HL.out.below hb3 (Nat.le_refl _) hb3.size)
      have HM := Lib.hid (HM.out.below hb3 (Nat.le_refl _) hb3.size)
      have HB := Lib.hid (HB.out.trans (hb3.mono HB.out.size))
      clear hb3
      have HT := Lib.hid (liveM_any HK.out w3)
      go_wp2_with fail
      refine HT.out.mono ?_
      rintro r w4 ⟨rfl, hb4⟩
      clear HT
      have HL := Lib.hid (HL.out.below hb4 (Nat.le_refl _) hb4.size)
      have HM := Lib.hid (HM.out.below hb4 (Nat.le_refl _) hb4.size)
      have HB := Lib.hid (HB.out.trans (hb4.mono HB.out.size))
      clear hb4
      go_wp2_with fail
      go_ret
      exact ⟨rfl, HB.out⟩
    | true =>
      have f := Lib.hid hf
      have g := Lib.hid hg
      have HOl := Lib.hid (fewR_ok hf)
      have HOm := Lib.hid (fewR_ok hg)
      clear hf hg
      go_enter Try.func3, Try.ntmps3
      have HT := Lib.hid (liveM_any HK.out w)
      go_wp2_with fail
      refine HT.out.mono ?_
      rintro r w1 ⟨rfl, hb1⟩
      clear HT
      have HL := Lib.hid (HL.out.below hb1 (Nat.le_refl _) hb1.size)
      have HM := Lib.hid (HM.out.below hb1 (Nat.le_refl _) hb1.size)
      have HB := Lib.hid (HB.out.trans (hb1.mono HB.out.size))
      clear hb1
      have HT := Lib.hid (fewRyes f.out HL.out)
      go_wp2_with fail
      refine HT.out.mono ?_
      rintro r w2 ⟨rfl, hb2⟩
      clear HT
      have HL := Lib.hid (HL.out.below hb2 (Nat.le_refl _) hb2.size)
      have HM := Lib.hid (HM.out.below hb2 (Nat.le_refl _) hb2.size)
      have HB := Lib.hid (HB.out.trans (hb2.mono HB.out.size))
      clear hb2
      have HT := Lib.hid (fewRyes g.out HM.out)
      go_wp2_with fail
      refine HT.out.mono ?_
      rintro r w3 ⟨rfl, hb3⟩
      clear HT
      have HL := Lib.hid (HL.out.below hb3 (Nat.le_refl _) hb3.size)
      have HM := Lib.hid (HM.out.below hb3 (Nat.le_refl _) hb3.size)
      have HB := Lib.hid (HB.out.trans (hb3.mono HB.out.size))
      clear hb3
      have hll := HL.out.len
      have hl1 := HOl.out.1
      obtain ⟨ms, hms, hrow, hokm⟩ := HL.out.2.2.2
      have hlm : ms.length = l.length := by rw [← hms, List.length_map]
      have HMs := Lib.hid hms
      have HRow := Lib.hid hrow
      have HOks := Lib.hid hokm
      have HV := Lib.hid (hrow.below ((Below.refl w3.heap.size w3).alloc (Nat.le_refl _) (.cells #[] 29)) (Nat.le_refl _))
      have HNil := Lib.hid HL.out.2.2.1
      clear hms hrow hokm
      go_upto_region 4 with (at_builtin; refine append_row _ rfl _ _ 22 29 80 mrF mrInfo Try.underlying22 rfl w3.heap.size _ [] rfl (OwnG.made w3 29 6 mrCells) 0 _ A l.length c ms rfl hlm.symm HNil.out HV.out (by simp [maxLen]; omega) (by simp; omega) (by simp) ?_; intro v5 w5 ho5 hg5; have HO5 := Lib.hid ho5; have HB5 := Lib.hid (((Below.refl w3.heap.size w3).alloc (Nat.le_refl _) _).grown hg5 (by simp) (fun k hk => ((OwnG.made w3 29 6 mrCells).lt k hk).1)); clear ho5 hg5)
      obtain ⟨A9, c9, rfl, j1, j2, j3, j4⟩ := HO5.out.form
      rw [List.nil_append] at *
      have HWas := Lib.hid (show ChR w5 w5.heap.size A9 c9 l from ⟨by rw [← hlm]; exact j1, j2, j3, ms, HMs.out, j4.wide (Nat.zero_le _) (Nat.le_refl _), fun x hx => (HOks.out x hx).below HB5.out (Nat.le_refl _) HB5.out.size⟩)
      have hb5 := HB5.out
      rw [hlm]
      clear j1 j2 j3 j4 HV HRow HOks HO5 HB5 HMs HNil hlm
      have HL := Lib.hid (HL.out.below hb5 (Nat.le_refl _) hb5.size)
      have HM := Lib.hid (HM.out.below hb5 (Nat.le_refl _) hb5.size)
      have HB := Lib.hid (HB.out.trans (hb5.mono HB.out.size))
      clear hb5 ms
      by_cases h2 : 1 < l.length
      · have d1 : decide ((1 : Int) < (l.length : Int)) = true := by rw [decide_eq_true_iff]; omega
        have d2 : decide (1 < l.length) = true := by rw [decide_eq_true_iff]; omega
        have d3 : decide ((0 : Int) < (l.length : Int)) = true := by rw [decide_eq_true_iff]; omega
        have d4 : (1 : Int) < (l.length : Int) := by omega
        have h0 : 0 < l.length := by omega
        obtain ⟨bb, o, rfl, hbh, x, ex, okx, a0, a1, a2, a3, a4, a5⟩ := HL.out.2.2.2.at_ h0
        obtain ⟨b9, o9, e9, _, y, ey, oky, b0, b1, b2, b3, b4, b5⟩ := HL.out.2.2.2.at_ h2
        obtain ⟨rfl, rfl⟩ : bb = b9 ∧ o = o9 := by simpa using e9
        simp only [Nat.zero_mul, Nat.add_zero, Nat.one_mul] at a0 a1 a2 a3 a4 a5 b0 b1 b2 b3 b4 b5
        have hmany : x.r.reads.length + x.r.writes.length + (y.r.reads.length + y.r.writes.length) ≤ 1000 := by
          have h := HOl.out.2
          have h5 := many_two h0 h2
          rw [ex, ey]
          omega
        have hC1 := fun (W : World) (h : Below w5.heap.size w5 W) => (HK.out.join x y marks W (by omega) (by omega) HM1.out HM2.out (okx.below h (Nat.le_refl _) h.size) (oky.below h (Nat.le_refl _) h.size)).mono fun r' w' (q : RetOne (joinR (jI marks) x.r y.r) W r' w') => (show ∃ u : MR, u.r = joinR (jI marks) x.r y.r ∧ r' = .returned (recVal u) ∧ OkMR w' w'.heap.size u ∧ Below w5.heap.size w5 w' from by
          obtain ⟨u, h1, h2, h3, h4⟩ := q
          exact ⟨u, h1, h2, h3, h.trans (h4.mono h.size)⟩)
        have hC2 := fun (W : World) (h : Below w5.heap.size w5 W) => refJoinM_any x y marks W (by omega) (by omega) HM1.out HM2.out (okx.below h (Nat.le_refl _) h.size) (oky.below h (Nat.le_refl _) h.size)
        have hoj : okR (joinR (jI marks) x.r y.r) := by
          have h1 := jI_len marks x.r.reads y.r.reads
          have h2 := jI_len marks x.r.writes y.r.writes
          exact ⟨by show (jI marks x.r.reads y.r.reads).length ≤ 1000; omega, by show (jI marks x.r.writes y.r.writes).length ≤ 1000; omega⟩
        unfold RetOne at hC2
        obtain ⟨J, hJ⟩ : ∃ J, joinR (jI marks) x.r y.r = J := ⟨_, rfl⟩
        rw [hJ] at hC1 hC2 hoj
        have HC3 := Lib.hid (fun (u v : MR) (W : World) (hu : u.r = J) (hv : v.r = J) (o1 : OkMR W W.heap.size u) (o2 : OkMR W W.heap.size v) => (show Calls Try.prog 10 #[recVal u, recVal v] W fun r w' => r = .returned (.bool true) ∧ Below W.heap.size W w' from (refSameOneM_any u v W (by rw [hu]; exact hoj) (by rw [hv]; exact hoj) o1 o2).mono fun _ _ q => ⟨by rw [q.1, hu, hv]; unfold sameOneR; rw [decide_eq_true rfl], q.2⟩))
        clear ex ey okx oky hmany hoj hJ e9
        obtain ⟨⟨xf, xl, xb, xo, xr, xw⟩, xA, xc, xB, xd⟩ := x
        obtain ⟨⟨yf, yl, yb, yo, yr, yw⟩, yA, yc, yB, yd⟩ := y
        unfold recVal at hC1 hC2 HC3
        simp only at hC1 hC2 a0 a1 a2 a3 a4 a5 b0 b1 b2 b3 b4 b5
        have HC1 := Lib.hid hC1
        have HC2 := Lib.hid hC2
        obtain ⟨S, hS1, hS2⟩ : ∃ S : World → Prop, (∀ W : World, Below w5.heap.size w5 W → S W) ∧ ∀ W : World, S W → W.cell? ⟨bb, o, none⟩ = some (.int .u64 xf) ∧ W.cell? ⟨bb, o + 1, none⟩ = some (.int .u64 xl) ∧ W.cell? ⟨bb, o + 2, none⟩ = some (.int .u64 xb) ∧ W.cell? ⟨bb, o + 3, none⟩ = some (.int .u64 xo) ∧ W.cell? ⟨bb, o + 4, none⟩ = some (.slice xA xr.length xc) ∧ W.cell? ⟨bb, o + 5, none⟩ = some (.slice xB xw.length xd) ∧ W.cell? ⟨bb, o + 6, none⟩ = some (.int .u64 yf) ∧ W.cell? ⟨bb, o + 6 + 1, none⟩ = some (.int .u64 yl) ∧ W.cell? ⟨bb, o + 6 + 2, none⟩ = some (.int .u64 yb) ∧ W.cell? ⟨bb, o + 6 + 3, none⟩ = some (.int .u64 yo) ∧ W.cell? ⟨bb, o + 6 + 4, none⟩ = some (.slice yA yr.length yc) ∧ W.cell? ⟨bb, o + 6 + 5, none⟩ = some (.slice yB yw.length yd) := ⟨fun W => Below w5.heap.size w5 W, fun _ h => h, fun W h => by
          have g := fun (k : Nat) => h.cell (p := ⟨bb, k, none⟩) hbh
          exact ⟨(g _).trans a0, (g _).trans a1, (g _).trans a2, (g _).trans a3, (g _).trans a4, (g _).trans a5, (g _).trans b0, (g _).trans b1, (g _).trans b2, (g _).trans b3, (g _).trans b4, (g _).trans b5⟩⟩
        have HKp := Lib.hid hS1
        have HRd := Lib.hid hS2
        clear hS1 hS2 hC1 hC2 a0 a1 a2 a3 a4 a5 b0 b1 b2 b3 b4 b5 hbh
        refine wp_region_held_drew (S := S) (by kernel_rfl) ?_ (fun hHeld => ?_)
        · exact HKp.out _ (Below.refl _ _).drew
        refine take_held (i := 0) (v := ?_) rfl (by kernel_rfl) (by kernel_rfl) (by kernel_rfl) (fun _ _ _ h => h) (by rfl) (fun w hSw => ?_) (by assumption) ?_
        rotate_left
        · go_simp <;> with_reducible rfl
        (try simp only [Act.put, List.setIfInBounds_toArray, List.set_cons_zero, List.set_cons_succ])
        refine take_held (i := 1) (v := ?_) rfl (by kernel_rfl) (by kernel_rfl) (by kernel_rfl) (fun _ _ _ h => h) (by rfl) (fun w hSw => ?_) (by assumption) ?_
        rotate_left
        · go_simp <;> with_reducible rfl
        (try simp only [Act.put, List.setIfInBounds_toArray, List.set_cons_zero, List.set_cons_succ])
        refine take_held (i := 2) (v := ?_) rfl (by kernel_rfl) (by kernel_rfl) (by kernel_rfl) (fun _ _ _ h => h) (by rfl) (fun w hSw => ?_) (by assumption) ?_
        rotate_left
        · go_simp <;> with_reducible rfl
        (try simp only [Act.put, List.setIfInBounds_toArray, List.set_cons_zero, List.set_cons_succ])
        refine take_held (i := 3) (v := ?_) rfl (by kernel_rfl) (by kernel_rfl) (by kernel_rfl) (fun _ _ _ h => h) (by rfl) (fun w hSw => ?_) (by assumption) ?_
        rotate_left
        · go_simp <;> with_reducible rfl
        (try simp only [Act.put, List.setIfInBounds_toArray, List.set_cons_zero, List.set_cons_succ])
        refine take_held (i := 4) (v := ?_) rfl (by kernel_rfl) (by kernel_rfl) (by kernel_rfl) (fun _ _ _ h => h) (by rfl) (fun w hSw => ?_) (by assumption) ?_
        rotate_left
        · go_simp <;> with_reducible rfl
        (try simp only [Act.put, List.setIfInBounds_toArray, List.set_cons_zero, List.set_cons_succ])
        refine take_held (i := 5) (v := ?_) rfl (by kernel_rfl) (by kernel_rfl) (by kernel_rfl) (fun _ _ _ h => h) (by rfl) (fun w hSw => ?_) (by assumption) ?_
        rotate_left
        · go_simp <;> with_reducible rfl
        (try simp only [Act.put, List.setIfInBounds_toArray, List.set_cons_zero, List.set_cons_succ])
        refine take_held (i := 6) (v := ?_) rfl (by kernel_rfl) (by kernel_rfl) (by kernel_rfl) (fun _ _ _ h => h) (by rfl) (fun w hSw => ?_) (by assumption) ?_
        rotate_left
        · obtain ⟨z0, z1, z2, z3, z4, z5, y0, y1, y2, y3, y4, y5⟩ := HRd.out _ hSw; go_simp <;> with_reducible rfl
        (try simp only [Act.put, List.setIfInBounds_toArray, List.set_cons_zero, List.set_cons_succ])
        refine take_held (i := 7) (v := ?_) rfl (by kernel_rfl) (by kernel_rfl) (by kernel_rfl) (fun _ _ _ h => h) (by rfl) (fun w hSw => ?_) (by assumption) ?_
        rotate_left
        · go_simp <;> with_reducible rfl
        (try simp only [Act.put, List.setIfInBounds_toArray, List.set_cons_zero, List.set_cons_succ])
        refine take_held (i := 8) (v := ?_) rfl (by kernel_rfl) (by kernel_rfl) (by kernel_rfl) (fun _ _ _ h => h) (by rfl) (fun w hSw => ?_) (by assumption) ?_
        rotate_left
        · go_simp <;> with_reducible rfl
        (try simp only [Act.put, List.setIfInBounds_toArray, List.set_cons_zero, List.set_cons_succ])
        refine take_held (i := 9) (v := ?_) rfl (by kernel_rfl) (by kernel_rfl) (by kernel_rfl) (fun _ _ _ h => h) (by rfl) (fun w hSw => ?_) (by assumption) ?_
        rotate_left
        · obtain ⟨z0, z1, z2, z3, z4, z5, y0, y1, y2, y3, y4, y5⟩ := HRd.out _ hSw; go_simp <;> with_reducible rfl
        (try simp only [Act.put, List.setIfInBounds_toArray, List.set_cons_zero, List.set_cons_succ])
        refine take_held (i := 10) (v := ?_) rfl (by kernel_rfl) (by kernel_rfl) (by kernel_rfl) (fun _ _ _ h => h) (by rfl) (fun w hSw => ?_) (by assumption) ?_
        rotate_left
        · go_simp <;> with_reducible rfl
        (try simp only [Act.put, List.setIfInBounds_toArray, List.set_cons_zero, List.set_cons_succ])
        refine take_held (i := 12) (v := ?_) rfl (by kernel_rfl) (by kernel_rfl) (by kernel_rfl) (fun _ _ _ h => h) (by rfl) (fun w hSw => ?_) (by assumption) ?_
        rotate_left
        · go_simp <;> with_reducible rfl
        (try simp only [Act.put, List.setIfInBounds_toArray, List.set_cons_zero, List.set_cons_succ])
        refine take_held (i := 13) (v := ?_) rfl (by kernel_rfl) (by kernel_rfl) (by kernel_rfl) (fun _ _ _ h => h) (by rfl) (fun w hSw => ?_) (by assumption) ?_
        rotate_left
        · go_simp <;> with_reducible rfl
        (try simp only [Act.put, List.setIfInBounds_toArray, List.set_cons_zero, List.set_cons_succ])
        refine take_held (i := 14) (v := ?_) rfl (by kernel_rfl) (by kernel_rfl) (by kernel_rfl) (fun _ _ _ h => h) (by rfl) (fun w hSw => ?_) (by assumption) ?_
        rotate_left
        · obtain ⟨z0, z1, z2, z3, z4, z5, y0, y1, y2, y3, y4, y5⟩ := HRd.out _ hSw; go_simp <;> with_reducible rfl
        (try simp only [Act.put, List.setIfInBounds_toArray, List.set_cons_zero, List.set_cons_succ])
        refine take_held (i := 15) (v := ?_) rfl (by kernel_rfl) (by kernel_rfl) (by kernel_rfl) (fun _ _ _ h => h) (by rfl) (fun w hSw => ?_) (by assumption) ?_
        rotate_left
        · go_simp <;> with_reducible rfl
        (try simp only [Act.put, List.setIfInBounds_toArray, List.set_cons_zero, List.set_cons_succ])
        refine take_held (i := 16) (v := ?_) rfl (by kernel_rfl) (by kernel_rfl) (by kernel_rfl) (fun _ _ _ h => h) (by rfl) (fun w hSw => ?_) (by assumption) ?_
        rotate_left
        · go_simp <;> with_reducible rfl
        (try simp only [Act.put, List.setIfInBounds_toArray, List.set_cons_zero, List.set_cons_succ])
        refine take_held (i := 17) (v := ?_) rfl (by kernel_rfl) (by kernel_rfl) (by kernel_rfl) (fun _ _ _ h => h) (by rfl) (fun w hSw => ?_) (by assumption) ?_
        rotate_left
        · obtain ⟨z0, z1, z2, z3, z4, z5, y0, y1, y2, y3, y4, y5⟩ := HRd.out _ hSw; go_simp <;> with_reducible rfl
        (try simp only [Act.put, List.setIfInBounds_toArray, List.set_cons_zero, List.set_cons_succ])
        refine take_held (i := 18) (v := ?_) rfl (by kernel_rfl) (by kernel_rfl) (by kernel_rfl) (fun _ _ _ h => h) (by rfl) (fun w hSw => ?_) (by assumption) ?_
        rotate_left
        · go_simp <;> with_reducible rfl
        (try simp only [Act.put, List.setIfInBounds_toArray, List.set_cons_zero, List.set_cons_succ])
        refine step_held (i := 11) (by kernel_rfl) rfl (fun K' hK => ?_)
        go_simp
        go_at_call 11; refine (HC1.out _ (Below.refl _ _).drew).mono ?_; rintro r w6 ⟨u, hu, rfl, hok6, hb6⟩; have HU := Lib.hid hu; clear hu
        (first | (refine hK.out _ _ ?_ (fun hHeld2 => ?_)) | (go_wp2_with fail; refine hK.out _ _ ?_ (fun hHeld2 => ?_)))
        · exact HKp.out _ hb6
        clear hK K' hHeld
        have hHeld := hHeld2
        clear hHeld2
        (try simp only [Act.put, List.setIfInBounds_toArray, List.set_cons_zero, List.set_cons_succ])
        refine step_held (i := 19) (by kernel_rfl) rfl (fun K' hK => ?_)
        go_simp
        go_at_call 12; refine (HC2.out _ hb6).mono ?_; rintro r w7 ⟨v, hv, rfl, hok7, hb7⟩; have HV := Lib.hid hv; clear hv
        (first | (refine hK.out _ _ ?_ (fun hHeld2 => ?_)) | (go_wp2_with fail; refine hK.out _ _ ?_ (fun hHeld2 => ?_)))
        · exact HKp.out _ (hb6.trans (hb7.mono hb6.size))
        clear hK K' hHeld
        have hHeld := hHeld2
        clear hHeld2
        (try simp only [Act.put, List.setIfInBounds_toArray, List.set_cons_zero, List.set_cons_succ])
        have HSm := Lib.hid (HC3.out u v w7 HU.out HV.out (hok6.below hb7 (Nat.le_refl _) hb7.size) hok7)
        have HB7 := Lib.hid (hb6.trans (hb7.mono hb6.size))
        clear hok6 hok7 hb6 hb7
        refine step_held (i := 20) (by kernel_rfl) rfl (fun K' hK => ?_)
        go_simp
        go_at_call 10; refine HSm.out.mono ?_; rintro r w8 ⟨rfl, hb8⟩; have HB8 := Lib.hid (HB7.out.trans (hb8.mono HB7.out.size)); clear hb8
        (first | (refine hK.out _ _ ?_ (fun hHeld2 => ?_)) | (go_wp2_with fail; refine hK.out _ _ ?_ (fun hHeld2 => ?_)))
        · exact HKp.out _ HB8.out
        clear hK K' hHeld
        have hHeld := hHeld2
        clear hHeld2
        (try simp only [Act.put, List.setIfInBounds_toArray, List.set_cons_zero, List.set_cons_succ])
        refine take_held (i := 21) (v := ?_) rfl (by kernel_rfl) (by kernel_rfl) (by kernel_rfl) (fun _ _ _ h => h) (by rfl) (fun w hSw => ?_) (by assumption) ?_
        rotate_left
        · go_simp <;> with_reducible rfl
        (try simp only [Act.put, List.setIfInBounds_toArray, List.set_cons_zero, List.set_cons_succ])
        refine take_held (i := 22) (v := ?_) rfl (by kernel_rfl) (by kernel_rfl) (by kernel_rfl) (fun _ _ _ h => h) (by rfl) (fun w hSw => ?_) (by assumption) ?_
        rotate_left
        · go_simp <;> with_reducible rfl
        (try simp only [Act.put, List.setIfInBounds_toArray, List.set_cons_zero, List.set_cons_succ])
        refine wpAnyH_done (by kernel_rfl) ?_ _
        have hb8 := HB8.out
        have HL := Lib.hid (HL.out.below hb8 (Nat.le_refl _) hb8.size)
        have HM := Lib.hid (HM.out.below hb8 (Nat.le_refl _) hb8.size)
        have HB := Lib.hid (HB.out.trans (hb8.mono HB.out.size))
        have HWas := Lib.hid (HWas.out.below hb8 (Nat.le_refl _) hb8.size)
        clear hb8 HB8 HB7 HSm HU HV HC1 HC2 HC3 HKp HRd hHeld
        have HT := Lib.hid (HK.out.forget l (some ⟨bb, o, none⟩) c low w8 HOl.out HLow.out HL.out)
        go_wp2_with fail
        refine HT.out.mono ?_
        rintro r w4 ⟨A5, c5, rfl, h5, hb4⟩
        clear HT
        have HL := Lib.hid (HL.out.below hb4 (Nat.le_refl _) hb4.size)
        have HM := Lib.hid (HM.out.below hb4 (Nat.le_refl _) hb4.size)
        have HB := Lib.hid (HB.out.trans (hb4.mono HB.out.size))
        have HWas := Lib.hid (HWas.out.below hb4 (Nat.le_refl _) hb4.size)
        have H5 := Lib.hid h5
        clear h5
        clear hb4
        have HT := Lib.hid (refForgetM_any l (some ⟨bb, o, none⟩) c low w4 HOl.out HLow.out HL.out)
        go_wp2_with fail
        refine HT.out.mono ?_
        rintro r w5 ⟨A6, c6, rfl, h6, hb5⟩
        clear HT
        have HL := Lib.hid (HL.out.below hb5 (Nat.le_refl _) hb5.size)
        have HM := Lib.hid (HM.out.below hb5 (Nat.le_refl _) hb5.size)
        have HB := Lib.hid (HB.out.trans (hb5.mono HB.out.size))
        have HWas := Lib.hid (HWas.out.below hb5 (Nat.le_refl _) hb5.size)
        have H5 := Lib.hid (H5.out.below hb5 (Nat.le_refl _) hb5.size)
        have H6 := Lib.hid h6
        clear h6
        clear hb5
        have HT := Lib.hid (sameYesM (HOl.out.forget low) H5.out H6.out)
        go_wp2_with fail
        refine HT.out.mono ?_
        rintro r w6 ⟨rfl, hb6⟩
        clear HT
        have HL := Lib.hid (HL.out.below hb6 (Nat.le_refl _) hb6.size)
        have HM := Lib.hid (HM.out.below hb6 (Nat.le_refl _) hb6.size)
        have HB := Lib.hid (HB.out.trans (hb6.mono HB.out.size))
        have HWas := Lib.hid (HWas.out.below hb6 (Nat.le_refl _) hb6.size)
        have H5 := Lib.hid (H5.out.below hb6 (Nat.le_refl _) hb6.size)
        have H6 := Lib.hid (H6.out.below hb6 (Nat.le_refl _) hb6.size)
        clear hb6
        have HT := Lib.hid (HK.out.fit l (some ⟨bb, o, none⟩) c n marks w6 HOl.out HN1.out HN2.out HM1.out HM2.out HL.out)
        go_wp2_with fail
        refine HT.out.mono ?_
        rintro r w7 ⟨A7, c7, rfl, h7, hb7⟩
        clear HT
        have HL := Lib.hid (HL.out.below hb7 (Nat.le_refl _) hb7.size)
        have HM := Lib.hid (HM.out.below hb7 (Nat.le_refl _) hb7.size)
        have HB := Lib.hid (HB.out.trans (hb7.mono HB.out.size))
        have HWas := Lib.hid (HWas.out.below hb7 (Nat.le_refl _) hb7.size)
        have H5 := Lib.hid (H5.out.below hb7 (Nat.le_refl _) hb7.size)
        have H6 := Lib.hid (H6.out.below hb7 (Nat.le_refl _) hb7.size)
        have H7 := Lib.hid h7
        clear h7
        clear hb7
        have HT := Lib.hid (refFitM_any l (some ⟨bb, o, none⟩) c n marks w7 HOl.out HM1.out HM2.out HL.out)
        go_wp2_with fail
        refine HT.out.mono ?_
        rintro r w8 ⟨A8, c8, rfl, h8, hb8⟩
        clear HT
        have HL := Lib.hid (HL.out.below hb8 (Nat.le_refl _) hb8.size)
        have HM := Lib.hid (HM.out.below hb8 (Nat.le_refl _) hb8.size)
        have HB := Lib.hid (HB.out.trans (hb8.mono HB.out.size))
        have HWas := Lib.hid (HWas.out.below hb8 (Nat.le_refl _) hb8.size)
        have H5 := Lib.hid (H5.out.below hb8 (Nat.le_refl _) hb8.size)
        have H6 := Lib.hid (H6.out.below hb8 (Nat.le_refl _) hb8.size)
        have H7 := Lib.hid (H7.out.below hb8 (Nat.le_refl _) hb8.size)
        have H8 := Lib.hid h8
        clear h8
        clear hb8
        have HT := Lib.hid (sameYesM (HOl.out.fit marks n.toNat) H7.out H8.out)
        go_wp2_with fail
        refine HT.out.mono ?_
        rintro r w9 ⟨rfl, hb9⟩
        clear HT
        have HL := Lib.hid (HL.out.below hb9 (Nat.le_refl _) hb9.size)
        have HM := Lib.hid (HM.out.below hb9 (Nat.le_refl _) hb9.size)
        have HB := Lib.hid (HB.out.trans (hb9.mono HB.out.size))
        have HWas := Lib.hid (HWas.out.below hb9 (Nat.le_refl _) hb9.size)
        have H5 := Lib.hid (H5.out.below hb9 (Nat.le_refl _) hb9.size)
        have H6 := Lib.hid (H6.out.below hb9 (Nat.le_refl _) hb9.size)
        have H7 := Lib.hid (H7.out.below hb9 (Nat.le_refl _) hb9.size)
        have H8 := Lib.hid (H8.out.below hb9 (Nat.le_refl _) hb9.size)
        clear hb9
        have HT := Lib.hid (HK.out.same l m (some ⟨bb, o, none⟩) B c d w9 HOl.out HOm.out HL.out HM.out)
        go_wp2_with fail
        refine HT.out.mono ?_
        rintro r w10 ⟨rfl, hb10⟩
        clear HT
        have HL := Lib.hid (HL.out.below hb10 (Nat.le_refl _) hb10.size)
        have HM := Lib.hid (HM.out.below hb10 (Nat.le_refl _) hb10.size)
        have HB := Lib.hid (HB.out.trans (hb10.mono HB.out.size))
        have HWas := Lib.hid (HWas.out.below hb10 (Nat.le_refl _) hb10.size)
        have H5 := Lib.hid (H5.out.below hb10 (Nat.le_refl _) hb10.size)
        have H6 := Lib.hid (H6.out.below hb10 (Nat.le_refl _) hb10.size)
        have H7 := Lib.hid (H7.out.below hb10 (Nat.le_refl _) hb10.size)
        have H8 := Lib.hid (H8.out.below hb10 (Nat.le_refl _) hb10.size)
        clear hb10
        have HT := Lib.hid (refSameM_any l m (some ⟨bb, o, none⟩) B c d w10 HOl.out HOm.out HL.out HM.out)
        go_wp2_with fail
        refine HT.out.mono ?_
        rintro r w11 ⟨rfl, hb11⟩
        clear HT
        have HL := Lib.hid (HL.out.below hb11 (Nat.le_refl _) hb11.size)
        have HM := Lib.hid (HM.out.below hb11 (Nat.le_refl _) hb11.size)
        have HB := Lib.hid (HB.out.trans (hb11.mono HB.out.size))
        have HWas := Lib.hid (HWas.out.below hb11 (Nat.le_refl _) hb11.size)
        have H5 := Lib.hid (H5.out.below hb11 (Nat.le_refl _) hb11.size)
        have H6 := Lib.hid (H6.out.below hb11 (Nat.le_refl _) hb11.size)
        have H7 := Lib.hid (H7.out.below hb11 (Nat.le_refl _) hb11.size)
        have H8 := Lib.hid (H8.out.below hb11 (Nat.le_refl _) hb11.size)
        clear hb11
        have HSw := Lib.hid (sameYesM HOl.out HL.out HWas.out)
        generalize sameR l m = b at *
        cases b
        all_goals
          go_wp2_with fail
          refine HSw.out.mono ?_
          rintro r w40 ⟨rfl, hb40⟩
          have HB40 := Lib.hid (HB.out.trans (hb40.mono HB.out.size))
          clear hb40
          go_wp2_with fail
          go_ret
          exact ⟨rfl, HB40.out⟩
      · have d1 : decide ((1 : Int) < (l.length : Int)) = false := by rw [decide_eq_false_iff_not]; omega
        have d2 : decide (1 < l.length) = false := by rw [decide_eq_false_iff_not]; omega
        refine wp_region_classJ (C := fun W => Below w5.heap.size w5 W) (by kernel_rfl) (by kernel_rfl) ((Below.refl _ _).drew) ?_
        repeat (
          refine no_implicit_lambda% (wpQuiet_step ?_)
          intro K hK
          go_simp
          first
          | (refine no_implicit_lambda% (hK _ ?_); clear hK K)
          | (apply Exists.intro
             refine ⟨fun _ => ?_, hK _ ?_⟩
             (first
                 | (intro _; with_reducible rfl)
                 | (intro hw; go_simp; with_reducible exact ⟨rfl, rfl⟩)
                 | (intro hw; go_simp; with_reducible exact rfl))
             clear hK K))
        refine wpQuiet_nil ?_
        intro w6 hb6
        have HL := Lib.hid (HL.out.below hb6 (Nat.le_refl _) hb6.size)
        have HM := Lib.hid (HM.out.below hb6 (Nat.le_refl _) hb6.size)
        have HB := Lib.hid (HB.out.trans (hb6.mono HB.out.size))
        have HWas := Lib.hid (HWas.out.below hb6 (Nat.le_refl _) hb6.size)
        clear hb6
        have HT := Lib.hid (HK.out.forget l A c low w6 HOl.out HLow.out HL.out)
        go_wp2_with fail
        refine HT.out.mono ?_
        rintro r w4 ⟨A5, c5, rfl, h5, hb4⟩
        clear HT
        have HL := Lib.hid (HL.out.below hb4 (Nat.le_refl _) hb4.size)
        have HM := Lib.hid (HM.out.below hb4 (Nat.le_refl _) hb4.size)
        have HB := Lib.hid (HB.out.trans (hb4.mono HB.out.size))
        have HWas := Lib.hid (HWas.out.below hb4 (Nat.le_refl _) hb4.size)
        have H5 := Lib.hid h5
        clear h5
        clear hb4
        have HT := Lib.hid (refForgetM_any l A c low w4 HOl.out HLow.out HL.out)
        go_wp2_with fail
        refine HT.out.mono ?_
        rintro r w5 ⟨A6, c6, rfl, h6, hb5⟩
        clear HT
        have HL := Lib.hid (HL.out.below hb5 (Nat.le_refl _) hb5.size)
        have HM := Lib.hid (HM.out.below hb5 (Nat.le_refl _) hb5.size)
        have HB := Lib.hid (HB.out.trans (hb5.mono HB.out.size))
        have HWas := Lib.hid (HWas.out.below hb5 (Nat.le_refl _) hb5.size)
        have H5 := Lib.hid (H5.out.below hb5 (Nat.le_refl _) hb5.size)
        have H6 := Lib.hid h6
        clear h6
        clear hb5
        have HT := Lib.hid (sameYesM (HOl.out.forget low) H5.out H6.out)
        go_wp2_with fail
        refine HT.out.mono ?_
        rintro r w6 ⟨rfl, hb6⟩
        clear HT
        have HL := Lib.hid (HL.out.below hb6 (Nat.le_refl _) hb6.size)
        have HM := Lib.hid (HM.out.below hb6 (Nat.le_refl _) hb6.size)
        have HB := Lib.hid (HB.out.trans (hb6.mono HB.out.size))
        have HWas := Lib.hid (HWas.out.below hb6 (Nat.le_refl _) hb6.size)
        have H5 := Lib.hid (H5.out.below hb6 (Nat.le_refl _) hb6.size)
        have H6 := Lib.hid (H6.out.below hb6 (Nat.le_refl _) hb6.size)
        clear hb6
        have HT := Lib.hid (HK.out.fit l A c n marks w6 HOl.out HN1.out HN2.out HM1.out HM2.out HL.out)
        go_wp2_with fail
        refine HT.out.mono ?_
        rintro r w7 ⟨A7, c7, rfl, h7, hb7⟩
        clear HT
        have HL := Lib.hid (HL.out.below hb7 (Nat.le_refl _) hb7.size)
        have HM := Lib.hid (HM.out.below hb7 (Nat.le_refl _) hb7.size)
        have HB := Lib.hid (HB.out.trans (hb7.mono HB.out.size))
        have HWas := Lib.hid (HWas.out.below hb7 (Nat.le_refl _) hb7.size)
        have H5 := Lib.hid (H5.out.below hb7 (Nat.le_refl _) hb7.size)
        have H6 := Lib.hid (H6.out.below hb7 (Nat.le_refl _) hb7.size)
        have H7 := Lib.hid h7
        clear h7
        clear hb7
        have HT := Lib.hid (refFitM_any l A c n marks w7 HOl.out HM1.out HM2.out HL.out)
        go_wp2_with fail
        refine HT.out.mono ?_
        rintro r w8 ⟨A8, c8, rfl, h8, hb8⟩
        clear HT
        have HL := Lib.hid (HL.out.below hb8 (Nat.le_refl _) hb8.size)
        have HM := Lib.hid (HM.out.below hb8 (Nat.le_refl _) hb8.size)
        have HB := Lib.hid (HB.out.trans (hb8.mono HB.out.size))
        have HWas := Lib.hid (HWas.out.below hb8 (Nat.le_refl _) hb8.size)
        have H5 := Lib.hid (H5.out.below hb8 (Nat.le_refl _) hb8.size)
        have H6 := Lib.hid (H6.out.below hb8 (Nat.le_refl _) hb8.size)
        have H7 := Lib.hid (H7.out.below hb8 (Nat.le_refl _) hb8.size)
        have H8 := Lib.hid h8
        clear h8
        clear hb8
        have HT := Lib.hid (sameYesM (HOl.out.fit marks n.toNat) H7.out H8.out)
        go_wp2_with fail
        refine HT.out.mono ?_
        rintro r w9 ⟨rfl, hb9⟩
        clear HT
        have HL := Lib.hid (HL.out.below hb9 (Nat.le_refl _) hb9.size)
        have HM := Lib.hid (HM.out.below hb9 (Nat.le_refl _) hb9.size)
        have HB := Lib.hid (HB.out.trans (hb9.mono HB.out.size))
        have HWas := Lib.hid (HWas.out.below hb9 (Nat.le_refl _) hb9.size)
        have H5 := Lib.hid (H5.out.below hb9 (Nat.le_refl _) hb9.size)
        have H6 := Lib.hid (H6.out.below hb9 (Nat.le_refl _) hb9.size)
        have H7 := Lib.hid (H7.out.below hb9 (Nat.le_refl _) hb9.size)
        have H8 := Lib.hid (H8.out.below hb9 (Nat.le_refl _) hb9.size)
        clear hb9
        have HT := Lib.hid (HK.out.same l m A B c d w9 HOl.out HOm.out HL.out HM.out)
        go_wp2_with fail
        refine HT.out.mono ?_
        rintro r w10 ⟨rfl, hb10⟩
        clear HT
        have HL := Lib.hid (HL.out.below hb10 (Nat.le_refl _) hb10.size)
        have HM := Lib.hid (HM.out.below hb10 (Nat.le_refl _) hb10.size)
        have HB := Lib.hid (HB.out.trans (hb10.mono HB.out.size))
        have HWas := Lib.hid (HWas.out.below hb10 (Nat.le_refl _) hb10.size)
        have H5 := Lib.hid (H5.out.below hb10 (Nat.le_refl _) hb10.size)
        have H6 := Lib.hid (H6.out.below hb10 (Nat.le_refl _) hb10.size)
        have H7 := Lib.hid (H7.out.below hb10 (Nat.le_refl _) hb10.size)
        have H8 := Lib.hid (H8.out.below hb10 (Nat.le_refl _) hb10.size)
        clear hb10
        have HT := Lib.hid (refSameM_any l m A B c d w10 HOl.out HOm.out HL.out HM.out)
        go_wp2_with fail
        refine HT.out.mono ?_
        rintro r w11 ⟨rfl, hb11⟩
        clear HT
        have HL := Lib.hid (HL.out.below hb11 (Nat.le_refl _) hb11.size)
        have HM := Lib.hid (HM.out.below hb11 (Nat.le_refl _) hb11.size)
        have HB := Lib.hid (HB.out.trans (hb11.mono HB.out.size))
        have HWas := Lib.hid (HWas.out.below hb11 (Nat.le_refl _) hb11.size)
        have H5 := Lib.hid (H5.out.below hb11 (Nat.le_refl _) hb11.size)
        have H6 := Lib.hid (H6.out.below hb11 (Nat.le_refl _) hb11.size)
        have H7 := Lib.hid (H7.out.below hb11 (Nat.le_refl _) hb11.size)
        have H8 := Lib.hid (H8.out.below hb11 (Nat.le_refl _) hb11.size)
        clear hb11
        have HSw := Lib.hid (sameYesM HOl.out HL.out HWas.out)
        generalize sameR l m = b at *
        cases b
        all_goals
          go_wp2_with fail
          refine HSw.out.mono ?_
          rintro r w40 ⟨rfl, hb40⟩
          have HB40 := Lib.hid (HB.out.trans (hb40.mono HB.out.size))
          clear hb40
          go_wp2_with fail
          go_ret
          exact ⟨rfl, HB40.out⟩
end Go.Proofs.Ytjkmodfbbiojmaa.ssiJoins
