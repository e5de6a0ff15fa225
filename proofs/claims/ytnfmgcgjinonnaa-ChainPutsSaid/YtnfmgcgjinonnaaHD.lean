/-
  Package chain: Put; the contracts.
-/
import Derived.Test.YtnfmgcgjinonnaaHDF
import Derived.Deep.DeepCutAuto
import Derived.Deep.RegionHeld3
namespace Go.Proofs.Ytnfmgcgjinonnaa
open Go.RowKit

theorem cutA_zero (A : Option Addr) (n : Nat) (h : cutA A n 0 = none) : A = none := by
  unfold cutA at h
  split at h
  · exact h
  · cases A with
    | none => rfl
    | some a => cases h

set_option maxRecDepth 100000 in
set_option maxHeartbeats 4000000 in
theorem dPut_any (l : List Ver) (A : Option Addr) (c : Nat) (v : Ver) (B : Option Addr) (d : Nat) (w : World) (hk : okLen l) (hr : ChH w w.heap.size A c l) (hv : v.tm < 18446744073709551616) (hvl : v.dat.length ≤ 4294967296) (hs : Sl w w.heap.size B d v.dat) :
    Calls Try.prog 26 #[.slice A l.length c, verVal v B d] w (RetPut (putH l v) w) := by
  obtain ⟨w0, hw0⟩ : ∃ y, w.alloc (.cells #[.int .u64 v.tm, .bool v.gone, .slice B v.dat.length d] 30) = y := ⟨_, rfl⟩
  have s0 : w0.heap.size = w.heap.size + 1 := by rw [← hw0]; simp
  have b0 : Below w.heap.size w w0 := by rw [← hw0]; exact (Below.refl _ w).alloc (Nat.le_refl _) _
  have h0 : w0.heap[w.heap.size]? = some (.cells #[.int .u64 v.tm, .bool v.gone, .slice B v.dat.length d] 30 (0, 0)) := by rw [← hw0]; exact heap_alloc_new w _
  have hrow : ∀ W, Below w.heap.size w W → RowH W w.heap.size A l := fun W h => hr.2.2.2.below h (Nat.le_refl _) (Nat.le_refl _)
  have hsl : ∀ W, Below w.heap.size w W → Sl W w.heap.size B d v.dat := fun W h => hs.below h (Nat.le_refl _) (Nat.le_refl _)
  have hup : ∀ W, Below w0.heap.size w0 W → Below w.heap.size w W := fun W h => b0.trans (h.mono (by omega))
  have HCR := Lib.hid (dRight_any l A c w.heap.size w0 (by have := hk.1; omega) (hrow _ b0) b0.size)
  have HCO : Hid (∀ W, Below w0.heap.size w0 W → Calls Try.prog 12 #[.slice (some ⟨W.heap.size, 0, none⟩) 1 1] (W.alloc (.cells #[.int .u64 v.tm, .bool v.gone, .slice B v.dat.length d] 30)) fun r w'' => r = .returned (.bool (rightC [v])) ∧ Below w0.heap.size w0 w'') := Lib.hid fun W h => by
    have ha := h.alloc h.size (.cells #[.int .u64 v.tm, .bool v.gone, .slice B v.dat.length d] 30)
    refine (dRight_any [v] (some ⟨W.heap.size, 0, none⟩) 1 (W.heap.size + 1) _ (by simp) (rowH_one (heap_alloc_new W _) hv ((hsl _ (hup _ ha)).below (Below.refl w.heap.size _) (Nat.le_refl _) (by have := h.size; omega)) (by omega)) (by simp)).mono fun _ _ q => ⟨q.1, ha.trans (q.2.mono ha.size)⟩
  have HCL : Hid (∀ W, Below w0.heap.size w0 W → Calls Try.prog 24 #[.slice A l.length c] W fun r w'' => r = .returned (.int .u64 (lastH l : Nat)) ∧ Below w0.heap.size w0 w'') := Lib.hid fun W h =>
    (dLast_any l A c w.heap.size W (by have := hk.1; omega) (hrow _ (hup _ h))).mono fun _ _ q => ⟨q.1, by rw [← q.2]; exact h⟩
  obtain ⟨C, hC⟩ : ∃ C, cutA A l.length 0 = C := ⟨_, rfl⟩
  have HCut : Hid (∀ W, Calls Try.prog 37 #[.slice A l.length c, .int .i64 0] W fun r w' => r = .returned (.slice C l.length l.length) ∧ W = w') := Lib.hid fun W => by
    have h := dCut_any l.length A c 0 W (by have := hk.1; omega) hr.1 (Nat.zero_le _)
    rw [hC] at h
    exact h
  have HCRow : Hid (∀ W, Below w.heap.size w W → RowH W w.heap.size C l) := Lib.hid fun W h => by
    have h1 := (hrow W h).drop 0 (Nat.zero_le _)
    rw [hC] at h1
    exact h1
  have HCN : Hid (C = none → l.length = 0) := Lib.hid fun h => by
    have hA := cutA_zero A l.length (hC.trans h)
    have h1 := hr.1
    have h2 := hr.2.2.1 hA
    omega
  obtain ⟨L, hL⟩ : ∃ L, (l ++ [v]).length = L := ⟨_, rfl⟩
  have HOwn : Hid (∀ (A9 : Option Addr) (c9 hi9 : Nat) (W : World), RowH W hi9 A9 (l ++ [v]) → hi9 ≤ W.heap.size → Below w.heap.size w W → Calls Try.prog 36 #[.slice A9 L c9] W fun r w'' => ∃ A c, r = .returned (.slice A L c) ∧ ChH w'' w''.heap.size A c (l ++ [v]) ∧ Below W.heap.size W w'') := Lib.hid fun A9 c9 hi9 W h1 h2 h3 => by
    have h := dOwned_any (l ++ [v]) A9 c9 hi9 W (by have := hk.1; simp; omega) (fun x hx => by
      rcases List.mem_append.1 hx with hx | hx
      · exact hk.each x hx
      · rw [List.mem_singleton] at hx
        subst hx
        exact hvl) h1 h2
    rw [hL] at h
    exact h.mono fun _ _ ⟨A, c, e, hc, hb⟩ => ⟨A, c, by rw [← hL]; exact e, hc, hb⟩
  have HSL := Lib.hid hsl
  have H0 := Lib.hid h0
  have HB0 := Lib.hid b0
  have HUp := Lib.hid hup
  have HS0 := Lib.hid s0
  have HW0 := Lib.hid hw0
  have HV := Lib.hid hv
  have HK := Lib.hid hk
  have HLn := Lib.hid hL
  clear hr hs hw0 b0 s0 h0 hv hrow hsl hup hC hL hk hvl
  obtain ⟨tm, gone, dat⟩ := v
  simp only at HCO H0 HSL HV HW0
  unfold verVal
  simp only
  have hput : putH l ⟨tm, gone, dat⟩ = if (rightC l && rightC [⟨tm, gone, dat⟩]) = true then if tm ≤ lastH l then ([], 70) else (l ++ [⟨tm, gone, dat⟩], 0) else ([], 1) := rfl
  generalize hr1 : rightC l = r1 at *
  generalize hr2 : rightC [⟨tm, gone, dat⟩] = r2 at *
  clear hr1 hr2
  rw [hput]
  clear hput
  have KEEP : Hid (∀ w', Below w0.heap.size w0 w' → w'.cell? ⟨w.heap.size, 0, none⟩ = some (.int .u64 tm) ∧ w'.cell? ⟨w.heap.size, 1, none⟩ = some (.bool gone) ∧ w'.cell? ⟨w.heap.size, 2, none⟩ = some (.slice B dat.length d) ∧ Below w0.heap.size w0 w') := Lib.hid (fun w' h => by
    have hx := heap_below H0.out h (by have := HS0.out; omega)
    exact ⟨cell_of_row w' _ 0 _ _ _ hx, cell_of_row w' _ 1 _ _ _ hx, cell_of_row w' _ 2 _ _ _ hx, h⟩)
  cases r1
  · go_enter Try.func26, Try.ntmps26
    go_upto_region 1 with fail
    rw [HW0.out]
    clear HW0
    go_wp2_with fail
    refine HCR.out.mono ?_
    rintro r w2 ⟨rfl, hb2⟩
    have HB2 := Lib.hid hb2
    clear hb2
    go_wp2_with fail
    refine bodyPost_ret (v := .tuple #[.slice none 0 0, .int .i64 1]) (by simp [results, Try.results26, go_sem]) rfl ?_
    exact ⟨none, 0, rfl, ChH.none_ _ _, HUp.out _ HB2.out⟩
  · cases r2
    · rw [if_neg (show ¬ (true && false) = true by decide)]
      go_enter Try.func26, Try.ntmps26
      go_upto_region 1 with fail
      rw [HW0.out]
      clear HW0
      go_wp2_with fail
      refine HCR.out.mono ?_
      rintro r w2 ⟨rfl, hb2⟩
      have HB2 := Lib.hid hb2
      obtain ⟨c0, c1, c2, _⟩ := KEEP.out _ hb2
      clear hb2
      go_wp2_with fail
      refine (HCO.out _ HB2.out).mono ?_
      rintro r w3 ⟨rfl, hb3⟩
      have HB3 := Lib.hid hb3
      clear hb3 c0 c1 c2
      go_wp2_with fail
      refine bodyPost_ret (v := .tuple #[.slice none 0 0, .int .i64 1]) (by simp [results, Try.results26, go_sem]) rfl ?_
      exact ⟨none, 0, rfl, ChH.none_ _ _, HUp.out _ HB3.out⟩
    · by_cases hlast : tm ≤ lastH l
      · have d1 : decide ((tm : Int) ≤ (lastH l : Int)) = true := by rw [decide_eq_true_iff]; omega
        have d2 : decide (tm ≤ lastH l) = true := by rw [decide_eq_true_iff]; omega
        rw [if_pos (show (true && true) = true from rfl), if_pos hlast]
        clear hlast
        go_enter Try.func26, Try.ntmps26
        go_upto_region 1 with fail
        rw [HW0.out]
        clear HW0
        go_wp2_with fail
        refine HCR.out.mono ?_
        rintro r w2 ⟨rfl, hb2⟩
        have HB2 := Lib.hid hb2
        obtain ⟨c0, c1, c2, _⟩ := KEEP.out _ hb2
        clear hb2
        go_wp2_with fail
        refine (HCO.out _ HB2.out).mono ?_
        rintro r w3 ⟨rfl, hb3⟩
        have HB3 := Lib.hid hb3
        clear hb3 c0 c1 c2
        obtain ⟨c0, c1, c2, _⟩ := KEEP.out _ HB3.out
        go_wp2_with fail
        go_region_held3 (fun w' => w'.cell? ⟨w.heap.size, 0, none⟩ = some (.int .u64 tm) ∧ w'.cell? ⟨w.heap.size, 1, none⟩ = some (.bool gone) ∧ w'.cell? ⟨w.heap.size, 2, none⟩ = some (.slice B dat.length d) ∧ Below w0.heap.size w0 w')
          (first | with_reducible exact KEEP.out _ hb6 | with_reducible exact KEEP.out _ HB3.out.drew)
          ((go_at_call 24; refine (HCL.out _ (by go_split_ands; assumption)).mono ?_; rintro r w' ⟨rfl, hb6⟩))
        go_wp2_with fail
        refine bodyPost_ret (v := .tuple #[.slice none 0 0, .int .i64 70]) (by simp [results, Try.results26, go_sem]) rfl ?_
        exact ⟨none, 0, rfl, ChH.none_ _ _, HUp.out _ hb6⟩
      · have d1 : decide ((tm : Int) ≤ (lastH l : Int)) = false := by rw [decide_eq_false_iff_not]; omega
        have d2 : decide (tm ≤ lastH l) = false := by rw [decide_eq_false_iff_not]; omega
        rw [if_pos (show (true && true) = true from rfl), if_neg hlast]
        clear hlast
        go_enter Try.func26, Try.ntmps26
        go_upto_region 1 with fail
        rw [HW0.out]
        clear HW0
        go_wp2_with fail
        refine HCR.out.mono ?_
        rintro r w2 ⟨rfl, hb2⟩
        have HB2 := Lib.hid hb2
        obtain ⟨c0, c1, c2, _⟩ := KEEP.out _ hb2
        clear hb2
        go_wp2_with fail
        refine (HCO.out _ HB2.out).mono ?_
        rintro r w3 ⟨rfl, hb3⟩
        have HB3 := Lib.hid hb3
        clear hb3 c0 c1 c2
        obtain ⟨c0, c1, c2, _⟩ := KEEP.out _ HB3.out
        go_wp2_with fail
        go_region_held3 (fun w' => w'.cell? ⟨w.heap.size, 0, none⟩ = some (.int .u64 tm) ∧ w'.cell? ⟨w.heap.size, 1, none⟩ = some (.bool gone) ∧ w'.cell? ⟨w.heap.size, 2, none⟩ = some (.slice B dat.length d) ∧ Below w0.heap.size w0 w')
          (first | with_reducible exact KEEP.out _ hb6 | with_reducible exact KEEP.out _ HB3.out.drew)
          ((go_at_call 24; refine (HCL.out _ (by go_split_ands; assumption)).mono ?_; rintro r w' ⟨rfl, hb6⟩))
        clear c0 c1 c2
        have HB6 := Lib.hid hb6
        obtain ⟨c0, c1, c2, _⟩ := KEEP.out _ hb6
        have hb7 := HUp.out _ hb6
        obtain ⟨ms, hms, hg, hok⟩ := HCRow.out _ hb7
        have hml : ms.length = l.length := by rw [← hms, List.length_map]
        have HMS := Lib.hid hms
        have HOK := Lib.hid hok
        have HG := Lib.hid hg
        have HML := Lib.hid hml
        have HB7 := Lib.hid hb7
        clear hok hg hms hml hb7 hb6
        have HRow : Hid (∀ W, Below w'.heap.size w' W → RowG mvCells W 0 w.heap.size C ms) := Lib.hid fun W h => HG.out.below (h.mono HB7.out.size) (Nat.le_refl _)
        have HLen : Hid ((ms ++ [(⟨⟨tm, gone, dat⟩, B, d⟩ : MV)]).length = L) := Lib.hid (by rw [← HLn.out, List.length_append, List.length_append, HML.out]; rfl)
        have HBds : Hid (ms.length + 1 ≤ maxLen ∧ (ms.length + 1) * 40 ≤ 140737488355328 ∧ l.length < l.length + 1) := Lib.hid (by have := HK.out.1; have := HML.out; unfold maxLen; omega)
        have HFin : Hid (∀ (A9 : Option Addr) (c9 : Nat) (W w5 : World), Below w'.heap.size w' W → OwnG 30 3 mvCells w5 W.heap.size (.slice A9 L c9) (ms ++ [⟨⟨tm, gone, dat⟩, B, d⟩]) → W.grownBy w5 none →
            Below w'.heap.size w' w5 ∧ RowH w5 w5.heap.size A9 (l ++ [⟨tm, gone, dat⟩])) := Lib.hid fun A9 c9 W w5 h1 h2 h3 => by
          have hb5 : Below w'.heap.size w' w5 := h1.grown h3 h1.size (fun _ h => by cases h)
          have hbw : Below w.heap.size w w5 := HB7.out.trans (hb5.mono HB7.out.size)
          obtain ⟨A8, c8, e, _, _, _, k4⟩ := h2.form
          injection e with e1 e2 e3
          subst e1
          refine ⟨hb5, ms ++ [⟨⟨tm, gone, dat⟩, B, d⟩], by rw [List.map_append, HMS.out]; rfl, k4.wide (Nat.zero_le _) (Nat.le_refl _), fun x hx => ?_⟩
          rcases List.mem_append.1 hx with hx | hx
          · exact (HOK.out x hx).below hb5 HB7.out.size (Nat.le_trans HB7.out.size hb5.size)
          · rw [List.mem_singleton] at hx
            subst hx
            exact ⟨HV.out, (HSL.out w5 hbw).below (Below.refl w.heap.size w5) (Nat.le_refl _) hbw.size⟩
        go_wp2_with fail
        go_region_held3 (fun w' => w'.cell? ⟨w.heap.size, 0, none⟩ = some (.int .u64 tm) ∧ w'.cell? ⟨w.heap.size, 1, none⟩ = some (.bool gone) ∧ w'.cell? ⟨w.heap.size, 2, none⟩ = some (.slice B dat.length d) ∧ Below w0.heap.size w0 w')
          (first | with_reducible exact KEEP.out _ HB6.out.drew | with_reducible exact KEEP.out _ HB6.out | with_reducible exact KEEP.out _ (HB6.out.drew.alloc HB6.out.size _) | with_reducible exact KEEP.out _ (HB6.out.alloc HB6.out.size _) | with_reducible exact KEEP.out _ (HB6.out.alloc HB6.out.size _).drew | with_reducible exact KEEP.out _ (HB6.out.trans (hb9.mono HB6.out.size)) | with_reducible exact KEEP.out _ ((HB6.out.trans (hb9.mono HB6.out.size)).trans (hb10.mono (HB6.out.trans (hb9.mono HB6.out.size)).size)))
          ((first
            | (go_at_call 37; refine (HCut.out _).mono ?_; rintro r w9 ⟨rfl, rfl⟩)
            | (refine step_append_full_row rfl (.tmp 21) (.tmp 23) 22 30 40 mvF mvInfo Try.underlying22 rfl C l.length l.length 0 w.heap.size ms (by simp [Act.eval]) HML.out.symm HCN.out (HRow.out _ (by first | exact ((Below.refl _ _).drew.alloc (Nat.le_refl _) _) | exact ((Below.refl _ _).alloc (Nat.le_refl _) _) | exact ((Below.refl _ _).alloc (Nat.le_refl _) _).drew)) w'.heap.size (w'.heap.size + 1) ⟨w'.heap.size, 0, none⟩ 1 1 [⟨⟨tm, gone, dat⟩, B, d⟩] (by simp [Act.eval]) rfl (RowG.one (by first | exact heap_alloc_new w' _ | exact heap_alloc_new w'.drew _)) HBds.out.2.2 HBds.out.1 HBds.out.2.1 ?_; intro v1 w5 ho5 hg5; obtain ⟨A9, c9, he9, _⟩ := ho5.form; rw [HLen.out] at he9; subst he9; obtain ⟨hb9, hr9⟩ := HFin.out A9 c9 _ w5 (by first | exact ((Below.refl _ _).drew.alloc (Nat.le_refl _) _) | exact ((Below.refl _ _).alloc (Nat.le_refl _) _) | exact ((Below.refl _ _).alloc (Nat.le_refl _) _).drew) ho5 hg5)
            | (go_at_call 36; refine (HOwn.out A9 c9 w5.heap.size _ hr9 (Nat.le_refl _) (HB7.out.trans (hb9.mono HB7.out.size))).mono ?_; rintro r w9 ⟨A10, c10, rfl, hc10, hb10⟩)))
        all_goals
          have HQ := Lib.hid (show RetPut (l ++ [⟨tm, gone, dat⟩], 0) w (.returned (.tuple #[.slice A10 L c10, .int .i64 0])) w9 from ⟨A10, c10, by rw [← HLn.out], hc10, (HB7.out.trans (hb9.mono HB7.out.size)).trans (hb10.mono (HB7.out.trans (hb9.mono HB7.out.size)).size)⟩)
          clear hc10 hb10 hb9 hr9 ho5 hg5
          go_wp2_with fail
          refine bodyPost_ret (v := .tuple #[.slice A10 L c10, .int .i64 0]) (by simp [results, Try.results26, go_sem]) rfl ?_
          exact HQ.out

theorem chainC : ChainC where
  right := fun l A c w hk hr => dRight_any l A c w.heap.size w (by have := hk.1; omega) hr.2.2.2 (Nat.le_refl _)
  size := fun l A c w hk hr => dSize_any l A c w.heap.size w (by have := hk.1; omega) (by have := hk.2; omega) hr.2.2.2 (Nat.le_refl _)
  same := fun l m A B c d w hk hm hr hr2 => dSame_any l m A B c d w (by have := hk.1; omega) (by have := hm.1; omega) hr.2.2.2 hr2.2.2.2
  find := fun l A c t w hk hr hri _ => dFind_any l A c t w hk hr hri
  get := fun l A c t w hk hr hri _ => dGet_any l A c t w hk hr hri
  last := fun l A c w hk hr _ => (dLast_any l A c w.heap.size w (by have := hk.1; omega) hr.2.2.2).mono fun _ _ q => ⟨q.1, by rw [← q.2]; exact Below.refl _ _⟩
  put := fun l A c v B d w hk hr hv hvl hs => dPut_any l A c v B d w hk hr hv hvl hs
  trim := fun l A c low w hk hr hri _ => dTrim_any l A c low w hk hr hri
end Go.Proofs.Ytnfmgcgjinonnaa
