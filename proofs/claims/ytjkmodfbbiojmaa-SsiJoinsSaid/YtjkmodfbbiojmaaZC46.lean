import Derived.Test.YtjkmodfbbiojmaaZC45
import Derived.Test.YtjkmodfbbiojmaaZC35
import Derived.Test.YtjkmodfbbiojmaaZC36
import Derived.Test.YtjkmodfbbiojmaaZC16
import Derived.Deep.LoopGhost
import Derived.Deep.DeepCutAuto
/-
  Records, the document's own answers: Fit.
-/
namespace Go.Proofs.Ytjkmodfbbiojmaa
open Go.RowKit

set_option maxRecDepth 100000 in
set_option maxHeartbeats 16000000 in
theorem refFitM_any (l : List RecS) (A : Option Addr) (c : Nat) (n marks : Int) (w : World) (hl : okRs l) (hm1 : -9223372036854775808 ≤ marks) (hm2 : marks ≤ 9223372036854775807) (h : ChR w w.heap.size A c l) :
    Calls Try.prog 17 #[.slice A l.length c, .int .i64 n, .int .i64 marks] w (RetRec (fitR (jI marks) n.toNat l) w) := by
  obtain ⟨hlc, hcm, hnil, ms0, hms0, hrow, hokm⟩ := h
  have hlen0 : ms0.length = l.length := by rw [← hms0, List.length_map]
  have HM0 := Lib.hid hms0
  have HO := Lib.hid hl
  have HN1 := Lib.hid hm1
  have HN2 := Lib.hid hm2
  have HMx := fitN_cast n
  have HP := Lib.hid (fitN_pos n)
  have HNt := Lib.hid (fitN_nat n)
  have hl1 : ms0.length ≤ 1000 := by rw [hlen0]; exact hl.1
  have HL1 := Lib.hid hl1
  have HR0 := Lib.hid (hrow.below ((Below.refl _ w).alloc (Nat.le_refl _) (.cells #[] 29)) (Nat.le_refl _))
  have HOk0 := Lib.hid (fun x hx => (hokm x hx))
  have HNil := Lib.hid hnil
  have HB0 := Lib.hid ((Below.refl w.heap.size w).alloc (Nat.le_refl _) (.cells #[] 29))
  rw [← hlen0]
  clear hms0 hl hm1 hm2 hrow hokm hnil hl1 hlc hcm hlen0
  go_enter Try.func17, Try.ntmps17
  go_wp2_with (at_builtin; refine append_row _ rfl _ _ 22 29 80 mrF mrInfo Try.underlying22 rfl w.heap.size _ [] rfl (OwnG.made w 29 6 mrCells) 0 _ A ms0.length c ms0 rfl rfl HNil.out HR0.out (by have := HL1.out; simp [maxLen]; omega) (by have := HL1.out; simp; omega) (by simp) ?_; intro v1 w1 ho1 hg1; have HO1 := Lib.hid ho1; have HB1 := Lib.hid (HB0.out.grown hg1 (by simp) (fun k hk => ((OwnG.made w 29 6 mrCells).lt k hk).1)); clear ho1 hg1)
  obtain ⟨A1, c1, rfl, k1, k2, k3, k4⟩ := HO1.out.form
  rw [List.nil_append] at k1 k4
  have HC1 := Lib.hid (And.intro k1 (And.intro k2 (And.intro k3 (k4.wide (Nat.zero_le _) (Nat.le_refl _)))))
  rw [List.nil_append] at *
  clear k1 k2 k3 k4
  go_loopg [7, 8] ms0.length (fun q vl _ wr => ∃ (ms : List MR) (A2 : Option Addr) (c2 : Nat), ms.length = q ∧ vl = .slice A2 ms.length c2 ∧ fitR (jI marks) n.toNat (ms.map MR.r) = fitR (jI marks) n.toNat l ∧ okRs (ms.map MR.r) ∧ (ms.length ≤ c2 ∧ c2 ≤ maxLen ∧ (A2 = none → c2 = 0) ∧ RowG mrCells wr 0 wr.heap.size A2 ms) ∧ (∀ x ∈ ms, OkMR wr wr.heap.size x) ∧ Below w.heap.size w wr)
  case atStart => exact ⟨ms0, A1, c1, rfl, rfl, by rw [HM0.out], by rw [HM0.out]; exact HO.out, HC1.out, fun x hx => (HOk0.out x hx).below HB1.out (Nat.le_refl _) HB1.out.size, HB1.out⟩
  case round =>
    obtain ⟨ms, A2, c2, hk, rfl, hf, hoks, hc, hok, hb⟩ := hrel
    obtain ⟨wo, hwo⟩ : ∃ y, y = wr := ⟨_, rfl⟩
    subst hwo
    have HK := Lib.hid hk
    have HF := Lib.hid hf
    have HOs := Lib.hid hoks
    have HC := Lib.hid hc
    have HOk := Lib.hid hok
    have HB := Lib.hid hb
    have hml : ms.length ≤ 1000 := by have := hoks.1; rwa [List.length_map] at this
    clear hk hf hoks hc hok hb
    by_cases hgt : fitN n < ms.length
    · have d1 : decide ((fitN n : Int) < (ms.length : Int)) = true := by rw [decide_eq_true_iff]; omega
      have d2 : decide (fitN n < ms.length) = true := by rw [decide_eq_true_iff]; omega
      have h2 : 1 < ms.length := by have := HP.out; omega
      have h0 : 0 < ms.length := by omega
      obtain ⟨bb, o, rfl, _, hbh, hcell0⟩ := HC.out.2.2.2.at_ mrF h0
      obtain ⟨b9, o9, e9, _, _, hcell1⟩ := HC.out.2.2.2.at_ mrF h2
      obtain ⟨rfl, rfl⟩ : bb = b9 ∧ o = o9 := by simpa using e9
      have hlc := HC.out.1
      have hcm := HC.out.2.1
      obtain ⟨x, y, r, hm⟩ : ∃ x y r, ms = x :: y :: r := by
        match ms, h2 with
        | x :: y :: r, _ => exact ⟨x, y, r, rfl⟩
      have e0 : ms[0] = x := by subst hm; rfl
      have e1 : ms[1] = y := by subst hm; rfl
      rw [e0] at hcell0
      rw [e1] at hcell1
      have hrl : r.length + 2 = ms.length := by subst hm; rfl
      have HRo := Lib.hid (show RowG mrCells wo 0 wo.heap.size (if c2 = 2 then some ⟨bb, o, none⟩ else some ⟨bb, o + 12, none⟩) r from by
        have h := HC.out.2.2.2.drop mrF 2 c2 h2 hlc
        rw [hm] at h
        by_cases e : c2 = 2
        · rw [if_pos e]; rw [if_pos e] at h; exact h
        · rw [if_neg e]; rw [if_neg e] at h; exact h)
      have hokx := HOk.out x (by rw [hm]; simp)
      have hoky := HOk.out y (by rw [hm]; simp)
      have HOr := Lib.hid (fun z (hz : z ∈ r) => HOk.out z (by rw [hm]; simp [hz]))
      have hmany : manyR (x.r :: y.r :: r.map MR.r) ≤ 1000 := by
        have := HOs.out.2
        rw [hm] at this
        exact this
      rw [many_cons, many_cons] at hmany
      have hjn := fun W (h : Below wo.heap.size wo W) => refJoinM_any x y marks W (by omega) (by omega) HN1.out HN2.out (hokx.below h (Nat.le_refl _) h.size) (hoky.below h (Nat.le_refl _) h.size)
      have HSt := Lib.hid (show fitR (jI marks) n.toNat (ms.map MR.r) = fitR (jI marks) n.toNat (joinR (jI marks) x.r y.r :: r.map MR.r) by
        rw [hm]
        exact fitR_step (by have := HNt.out; simp; omega))
      have HOn := Lib.hid (show okRs (joinR (jI marks) x.r y.r :: r.map MR.r) from by
        have h3 := many_join (jI_len marks) x.r y.r (r.map MR.r)
        rw [many_cons x.r, many_cons y.r] at h3
        refine ⟨by simp; omega, by omega⟩)
      have HRl := Lib.hid hrl
      have HCall := Lib.hid (fun W (h : Below wo.heap.size wo W) => (hjn W h).mono fun r' w' (q : RetOne (joinR (jI marks) x.r y.r) W r' w') => (show ∃ u : MR, u.r = joinR (jI marks) x.r y.r ∧ r' = .returned (recVal u) ∧ OkMR w' w'.heap.size u ∧ Below wo.heap.size wo w' from by
        obtain ⟨u, h1, h2, h3, h4⟩ := q
        exact ⟨u, h1, h2, h3, h.trans (h4.mono h.size)⟩))
      obtain ⟨J, hJ⟩ : ∃ J, joinR (jI marks) x.r y.r = J := ⟨_, rfl⟩
      rw [hJ] at HCall HSt HOn
      clear hjn hokx hoky hmany hm hJ
      obtain ⟨⟨xf, xl, xb, xo, xr, xw⟩, xA, xc, xB, xd⟩ := x
      obtain ⟨⟨yf, yl, yb, yo, yr, yw⟩, yA, yc, yB, yd⟩ := y
      unfold recVal at HCall
      simp only at HCall
      have HRd0 := Lib.hid (fun (W : World) (h : Below wo.heap.size wo W) => (show W.cell? ⟨bb, o, none⟩ = some (.int .u64 xf) ∧ W.cell? ⟨bb, o + 1, none⟩ = some (.int .u64 xl) ∧ W.cell? ⟨bb, o + 2, none⟩ = some (.int .u64 xb) ∧ W.cell? ⟨bb, o + 3, none⟩ = some (.int .u64 xo) ∧ W.cell? ⟨bb, o + 4, none⟩ = some (.slice xA xr.length xc) ∧ W.cell? ⟨bb, o + 5, none⟩ = some (.slice xB xw.length xd) ∧ W.cell? ⟨bb, o + 6, none⟩ = some (.int .u64 yf) ∧ W.cell? ⟨bb, o + 6 + 1, none⟩ = some (.int .u64 yl) ∧ W.cell? ⟨bb, o + 6 + 2, none⟩ = some (.int .u64 yb) ∧ W.cell? ⟨bb, o + 6 + 3, none⟩ = some (.int .u64 yo) ∧ W.cell? ⟨bb, o + 6 + 4, none⟩ = some (.slice yA yr.length yc) ∧ W.cell? ⟨bb, o + 6 + 5, none⟩ = some (.slice yB yw.length yd) from by
        have g := fun (k : Nat) => h.cell (p := ⟨bb, k, none⟩) hbh
        have a0 := hcell0 0 _ rfl
        have a1 := hcell0 1 _ rfl
        have a2 := hcell0 2 _ rfl
        have a3 := hcell0 3 _ rfl
        have a4 := hcell0 4 _ rfl
        have a5 := hcell0 5 _ rfl
        have b0 := hcell1 0 _ rfl
        have b1 := hcell1 1 _ rfl
        have b2 := hcell1 2 _ rfl
        have b3 := hcell1 3 _ rfl
        have b4 := hcell1 4 _ rfl
        have b5 := hcell1 5 _ rfl
        simp only [Nat.zero_mul, Nat.add_zero, Nat.one_mul] at a0 a1 a2 a3 a4 a5 b0 b1 b2 b3 b4 b5
        exact ⟨(g _).trans a0, (g _).trans a1, (g _).trans a2, (g _).trans a3, (g _).trans a4, (g _).trans a5, (g _).trans b0, (g _).trans b1, (g _).trans b2, (g _).trans b3, (g _).trans b4, (g _).trans b5⟩))
      obtain ⟨S, hS1, hS2⟩ : ∃ S : World → Prop, (∀ W : World, Below wo.heap.size wo W → S W) ∧ ∀ W : World, S W → W.cell? ⟨bb, o, none⟩ = some (.int .u64 xf) ∧ W.cell? ⟨bb, o + 1, none⟩ = some (.int .u64 xl) ∧ W.cell? ⟨bb, o + 2, none⟩ = some (.int .u64 xb) ∧ W.cell? ⟨bb, o + 3, none⟩ = some (.int .u64 xo) ∧ W.cell? ⟨bb, o + 4, none⟩ = some (.slice xA xr.length xc) ∧ W.cell? ⟨bb, o + 5, none⟩ = some (.slice xB xw.length xd) ∧ W.cell? ⟨bb, o + 6, none⟩ = some (.int .u64 yf) ∧ W.cell? ⟨bb, o + 6 + 1, none⟩ = some (.int .u64 yl) ∧ W.cell? ⟨bb, o + 6 + 2, none⟩ = some (.int .u64 yb) ∧ W.cell? ⟨bb, o + 6 + 3, none⟩ = some (.int .u64 yo) ∧ W.cell? ⟨bb, o + 6 + 4, none⟩ = some (.slice yA yr.length yc) ∧ W.cell? ⟨bb, o + 6 + 5, none⟩ = some (.slice yB yw.length yd) := ⟨fun W => Below wo.heap.size wo W, fun _ h => h, fun W h => HRd0.out W h⟩
      have HKp := Lib.hid hS1
      have HRd := Lib.hid hS2
      clear hS1 hS2 e9 e0 e1 hrl hgt hcell0 hcell1 HRd0
      have hh1 : decide ((1 : Int) < (ms.length : Int)) = true := by rw [decide_eq_true_iff]; omega
      have hh2 : (1 : Int) < (ms.length : Int) := by omega
      have hh0 : decide ((0 : Int) < (ms.length : Int)) = true := by rw [decide_eq_true_iff]; omega
      go_wp2
      refine wp_region_held_drew (S := S) (by kernel_rfl) ?_ (fun hHeld => ?_)
      · exact HKp.out _ (Below.refl _ _).drew
      refine take_held (i := 0) (v := ?_) rfl (by kernel_rfl) (by kernel_rfl) (by kernel_rfl) (fun _ _ _ h => h) (by rfl) (fun w hSw => ?_) (by assumption) ?_
      rotate_left
      · go_simp <;> with_reducible rfl
      (try simp only [Act.put, List.setIfInBounds_toArray, List.set_cons_zero, List.set_cons_succ])
      refine take_held (i := 1) (v := ?_) rfl (by kernel_rfl) (by kernel_rfl) (by kernel_rfl) (fun _ _ _ h => h) (by rfl) (fun w hSw => ?_) (by assumption) ?_
      rotate_left
      · go_simp <;> with_reducible rfl
      (try simp only [Act.put, List.setIfInBounds_toArray, List.set_cons_zero, List.set_cons_succ])
      refine take_held (i := 2) (v := ?_) rfl (by kernel_rfl) (by kernel_rfl) (by kernel_rfl) (fun _ _ _ h => h) (by rfl) (fun w hSw => ?_) (by assumption) ?_
      rotate_left
      · obtain ⟨z0, z1, z2, z3, z4, z5, y0, y1, y2, y3, y4, y5⟩ := HRd.out _ hSw; go_simp <;> with_reducible rfl
      (try simp only [Act.put, List.setIfInBounds_toArray, List.set_cons_zero, List.set_cons_succ])
      refine take_held (i := 3) (v := ?_) rfl (by kernel_rfl) (by kernel_rfl) (by kernel_rfl) (fun _ _ _ h => h) (by rfl) (fun w hSw => ?_) (by assumption) ?_
      rotate_left
      · go_simp <;> with_reducible rfl
      (try simp only [Act.put, List.setIfInBounds_toArray, List.set_cons_zero, List.set_cons_succ])
      refine take_held (i := 4) (v := ?_) rfl (by kernel_rfl) (by kernel_rfl) (by kernel_rfl) (fun _ _ _ h => h) (by rfl) (fun w hSw => ?_) (by assumption) ?_
      rotate_left
      · go_simp <;> with_reducible rfl
      (try simp only [Act.put, List.setIfInBounds_toArray, List.set_cons_zero, List.set_cons_succ])
      refine take_held (i := 5) (v := ?_) rfl (by kernel_rfl) (by kernel_rfl) (by kernel_rfl) (fun _ _ _ h => h) (by rfl) (fun w hSw => ?_) (by assumption) ?_
      rotate_left
      · obtain ⟨z0, z1, z2, z3, z4, z5, y0, y1, y2, y3, y4, y5⟩ := HRd.out _ hSw; go_simp <;> with_reducible rfl
      (try simp only [Act.put, List.setIfInBounds_toArray, List.set_cons_zero, List.set_cons_succ])
      refine take_held (i := 6) (v := ?_) rfl (by kernel_rfl) (by kernel_rfl) (by kernel_rfl) (fun _ _ _ h => h) (by rfl) (fun w hSw => ?_) (by assumption) ?_
      rotate_left
      · go_simp <;> with_reducible rfl
      (try simp only [Act.put, List.setIfInBounds_toArray, List.set_cons_zero, List.set_cons_succ])
      refine step_held (i := 7) (by kernel_rfl) rfl (fun K' hK => ?_)
      go_simp
      go_at_call 12; with_reducible refine (HCall.out _ (Below.refl _ _).drew).mono ?_; rintro r w2 ⟨u, hu, rfl, hok2, hb2⟩; have HU := Lib.hid hu; clear hu
      (first | (refine hK.out _ _ ?_ (fun hHeld2 => ?_)) | (go_wp2_with fail; refine hK.out _ _ ?_ (fun hHeld2 => ?_)))
      · exact HKp.out _ hb2
      clear hK K' hHeld
      have hHeld := hHeld2
      clear hHeld2
      (try simp only [Act.put, List.setIfInBounds_toArray, List.set_cons_zero, List.set_cons_succ])
      refine step_held (i := 8) (by kernel_rfl) rfl (fun K' hK => ?_)
      go_simp
      (first | (refine hK.out _ _ ?_ (fun hHeld2 => ?_)) | (go_wp2_with fail; refine hK.out _ _ ?_ (fun hHeld2 => ?_)))
      · exact HKp.out _ (hb2.alloc hb2.size _)
      clear hK K' hHeld
      have hHeld := hHeld2
      clear hHeld2
      (try simp only [Act.put, List.setIfInBounds_toArray, List.set_cons_zero, List.set_cons_succ])
      refine take_held (i := 9) (v := ?_) rfl (by kernel_rfl) (by kernel_rfl) (by kernel_rfl) (fun _ _ _ h => h) (by rfl) (fun w hSw => ?_) (by assumption) ?_
      rotate_left
      · go_simp <;> with_reducible rfl
      (try simp only [Act.put, List.setIfInBounds_toArray, List.set_cons_zero, List.set_cons_succ])
      refine wpAnyH_done (by kernel_rfl) ?_ _
      have HB6 := Lib.hid (hb2.alloc hb2.size (.cells (mrCells u).toArray 29))
      have HO6 := Lib.hid (OwnG.oneI (x := u) mrF (heap_alloc_new w2 (.cells (mrCells u).toArray 29)))
      have HZ6 := Lib.hid hb2.size
      have HOu := Lib.hid (hok2.below ((Below.refl _ w2).alloc (Nat.le_refl _) (.cells (mrCells u).toArray 29)) (Nat.le_refl _) (Nat.le_refl _))
      obtain ⟨w9, hw9⟩ : ∃ y, w2.alloc (.cells (mrCells u).toArray 29) = y := ⟨_, rfl⟩
      have hz9 : w9.heap.size = w2.heap.size + 1 := by rw [← hw9]; simp
      have hb29 : Below w2.heap.size w2 w9 := by rw [← hw9]; exact (Below.refl _ w2).alloc (Nat.le_refl _) _
      have HB29 := Lib.hid hb29
      have hw9' : w2.alloc (.cells #[.int .u64 u.r.first, .int .u64 u.r.last, .int .u64 u.r.began, .int .u64 u.r.out, .slice u.A u.r.reads.length u.c, .slice u.B u.r.writes.length u.d] 29) = w9 := hw9
      rw [hw9] at HB6 HO6 HOu
      rw [hw9']
      have HZ9 := Lib.hid hz9
      have HR9 := Lib.hid (HRo.out.below HB6.out (Nat.le_refl _))
      clear hb2 hw9 hw9' hz9 hb29 hok2
      have HEl := Lib.hid (fun (W : World) (h : Below w2.heap.size w9 W) (z : MR) (hz : z ∈ u :: r) => (show OkMR W W.heap.size z from by
        rcases List.mem_cons.1 hz with rfl | hz
        · exact HOu.out.below h (Nat.le_refl _) (by have := h.size; have := HZ9.out; omega)
        · exact ((HOr.out z hz).below HB6.out (Nat.le_refl _) HZ6.out).below h (Nat.le_refl _) (by have := h.size; have := HZ9.out; omega)))
      by_cases hc2 : c2 = 2
      · have HR8 := HR9.out
        rw [if_pos hc2] at HR8
        subst hc2
        have hm2 : ms.length = 2 := by omega
        obtain rfl : r = [] := List.eq_nil_of_length_eq_zero (by have := HRl.out; omega)
        have hk2 : 2 = gk := by rw [← hm2]; exact HK.out
        have HK2 := Lib.hid hk2
        have HF2 := Lib.hid (HSt.out.symm.trans HF.out)
        clear HR8 HR9 hk2 HSt HRl HK HF d1 d2 h0 h2 hh0 hh1 hh2 hml hlc
        rw [hm2]
        clear hm2
        go_wp2_with (at_builtin; refine append_row _ rfl _ _ 22 29 80 mrF mrInfo Try.underlying22 rfl w2.heap.size _ [u] rfl HO6.out 0 0 (some ⟨bb, o, none⟩) 0 0 [] rfl rfl (fun e => by cases e) RowG.nil_ (by simp [maxLen]) (by simp) (by have := HZ9.out; omega) ?_; intro v2 w8 ho8 hg8; have HO8 := Lib.hid ho8; have HB8 := Lib.hid (OwnG.grown_below HB6.out HO6.out hg8 HZ6.out HB6.out.size); have HB28 := Lib.hid (OwnG.grown_below (Below.refl w2.heap.size w9) HO6.out hg8 (Nat.le_refl _) (by have := HZ9.out; omega)); clear ho8 hg8)
        obtain ⟨A9, c9, rfl, k1, k2, k3, k4⟩ := HO8.out.form
        have HC9 := Lib.hid (And.intro k1 (And.intro k2 (And.intro k3 (k4.wide (Nat.zero_le _) (Nat.le_refl _)))))
        clear k1 k2 k3 k4
        go_roundg (gk - 1)
        case measure => have := HK2.out; omega
        case rel => exact ⟨[u], A9, c9, by have := HK2.out; simp; omega, rfl, by rw [List.map_cons, HU.out]; exact HF2.out, by rw [List.map_cons, HU.out]; exact HOn.out, HC9.out, fun z hz => HEl.out _ HB28.out z hz, HB.out.trans (HB8.out.mono HB.out.size)⟩
      · have HR8 := HR9.out
        rw [if_neg hc2] at HR8
        have HR7 := Lib.hid HR8
        clear HR8 HR9
        go_wp2_with (at_builtin; refine append_row _ rfl _ _ 22 29 80 mrF mrInfo Try.underlying22 rfl w2.heap.size _ [u] rfl HO6.out 0 _ (some ⟨bb, o + 12, none⟩) (ms.length - 2) (c2 - 2) r rfl (by have := HRl.out; omega) (fun e => by cases e) HR7.out (by have := HRl.out; simp [maxLen]; omega) (by have := HRl.out; simp; omega) (by have := HZ9.out; omega) ?_; intro v2 w8 ho8 hg8; have HO8 := Lib.hid ho8; have HB8 := Lib.hid (OwnG.grown_below HB6.out HO6.out hg8 HZ6.out HB6.out.size); have HB28 := Lib.hid (OwnG.grown_below (Below.refl w2.heap.size w9) HO6.out hg8 (Nat.le_refl _) (by have := HZ9.out; omega)); clear ho8 hg8)
        obtain ⟨A9, c9, rfl, k1, k2, k3, k4⟩ := HO8.out.form
        have HC9 := Lib.hid (And.intro k1 (And.intro k2 (And.intro k3 (k4.wide (Nat.zero_le _) (Nat.le_refl _)))))
        clear k1 k2 k3 k4
        go_roundg (gk - 1)
        case measure => have := HK.out; omega
        case rel => exact ⟨u :: r, A9, c9, by have := HRl.out; have := HK.out; simp; omega, rfl, by rw [List.map_cons, HU.out, ← HSt.out, HF.out], by rw [List.map_cons, HU.out]; exact HOn.out, HC9.out, fun z hz => HEl.out _ HB28.out z hz, HB.out.trans (HB8.out.mono HB.out.size)⟩
    · have d1 : decide ((fitN n : Int) < (ms.length : Int)) = false := by rw [decide_eq_false_iff_not]; omega
      have d2 : decide (fitN n < ms.length) = false := by rw [decide_eq_false_iff_not]; omega
      have HE := Lib.hid (show ms.map MR.r = fitR (jI marks) n.toNat l by rw [← HF.out, fitR_few (by have := HNt.out; rw [List.length_map]; omega)])
      clear hgt
      go_wp2_with fail
      go_ret
      have e : ms.length = (fitR (jI marks) n.toNat l).length := by rw [← HE.out, List.length_map]
      exact ⟨A2, c2, by rw [← e]; rfl, ⟨by rw [← e]; exact HC.out.1, HC.out.2.1, HC.out.2.2.1, ms, HE.out, HC.out.2.2.2, HOk.out⟩, HB.out⟩
end Go.Proofs.Ytjkmodfbbiojmaa
