import Derived.Test.YtfdiidhilonkoaaZC32
set_option linter.unusedVariables false
/-
  Package order, the document's own answers: in, free, Right.
-/
namespace Go.Proofs.Ytfdiidhilonkoaa
open Go.RowKit

set_option maxRecDepth 100000 in
set_option maxHeartbeats 16000000 in
theorem refInO_any (ps : List Int) (m : Nat) (hm : m = ps.length) (A : Option Addr) (c : Nat) (z : Int) (w : World) (hl : ps.length ≤ 9223372036854775807) (hr : RowG inZ w 0 w.heap.size A ps) :
    Calls Try.prog 24 #[.slice A m c, .int .i64 z] w fun r w' => r = .returned (.bool (decide (z ∈ ps))) ∧ Below w.heap.size w w' := by
  subst hm
  have HR := Lib.hid hr
  clear hr
  go_enter Try.func24, Try.ntmps24
  go_wp2
  go_loopg [9] ps.length (fun q iv wr => ∃ j : Nat, j + q = ps.length ∧ iv = .int .i64 (j : Nat) ∧ z ∉ ps.take j ∧ Below w.heap.size w wr)
  case atStart => exact ⟨0, by omega, rfl, by simp, Below.refl _ _⟩
  case round =>
    obtain ⟨j, hj, rfl, hn, hb⟩ := hrel
    have HJ := Lib.hid hj
    have HN := Lib.hid hn
    have HB := Lib.hid hb
    clear hj hn hb
    by_cases hjn : j < ps.length
    · have hlt : decide ((j : Int) < (ps.length : Int)) = true := by simpa using hjn
      have hlt2 : decide (j < ps.length) = true := by simpa using hjn
      have q7 : (j : Int) < (ps.length : Int) := by omega
      obtain ⟨b, o, rfl, _, hbl, hc⟩ := (HR.out.below HB.out (Nat.le_refl _)).at_ inZF hjn
      have c0 := hc 0 (.int .i64 ps[j]) rfl
      simp only [Nat.add_zero, Nat.mul_one] at c0
      have HTk := Lib.hid (List.take_succ_eq_append_getElem hjn)
      have HMem := Lib.hid (List.getElem_mem hjn)
      clear hc hbl
      generalize ps[j] = p at *
      clear hjn
      by_cases hp : p = z
      · have e1 : (p == z) = true := by rw [beq_iff_eq]; exact hp
        have HF := Lib.hid (show decide (z ∈ ps) = true by rw [decide_eq_true_iff, ← hp]; exact HMem.out)
        clear hp
        go_wp2_with fail
        go_ret
        rw [HF.out]
        exact ⟨rfl, HB.out⟩
      · have e1 : (p == z) = false := by rw [beq_eq_false_iff_ne]; exact hp
        have HNx := Lib.hid (show z ∉ ps.take (j + 1) by
          rw [HTk.out]
          intro h
          rcases List.mem_append.1 h with h | h
          · exact HN.out h
          · rw [List.mem_singleton] at h; exact hp h.symm)
        clear hp
        go_wp2_with fail
        go_roundg (gk - 1)
        case measure => have := HJ.out; omega
        case rel => exact ⟨j + 1, by have := HJ.out; omega, by go_num, HNx.out, HB.out⟩
    · have hlt : decide ((j : Int) < (ps.length : Int)) = false := by simpa using hjn
      have hlt2 : decide (j < ps.length) = false := by simpa using hjn
      have HF := Lib.hid (show decide (z ∈ ps) = false by
        rw [decide_eq_false_iff_not]
        have := HN.out
        rwa [List.take_of_length_le (by omega)] at this)
      clear hjn
      go_wp2_with fail
      go_ret
      rw [HF.out]
      exact ⟨rfl, HB.out⟩
def dnZ (ps : List Int) (k : Nat) : Bool := decide ((k : Int) ∈ ps)
set_option maxRecDepth 100000 in
set_option maxHeartbeats 16000000 in
theorem refFree_any (ms : List MZ) (A : Option Addr) (c : Nat) (ps : List Int) (m : Nat) (hm : m = ps.length) (B : Option Addr) (d : Nat) (i : Nat) (hi : i < ms.length) (w : World) (hr : ChZ w w.heap.size A c ms) (hf : ∀ x ∈ ms, fewMZ x) (hl : ms.length ≤ 1000) (hp : RowG inZ w 0 w.heap.size B ps) (hpl : ps.length ≤ 9223372036854775807) :
    Calls Try.prog 26 #[.slice A ms.length c, .slice B m d, .int .i64 (i : Nat)] w fun r w' => r = .returned (.bool (freeD (dz ms) (dnZ ps) i)) ∧ Below w.heap.size w w' := by
  have HR := Lib.hid hr
  have HFw := Lib.hid hf
  have q9 : (ms.length : Int) ≤ 1000 := by omega
  have q3 : (i : Int) < (ms.length : Int) := by omega
  have HIn := Lib.hid (fun (V : World) (hV : Below w.heap.size w V) (z : Int) => refInO_any ps m hm B d z V hpl ((hp.below hV (Nat.le_refl _)).wide (Nat.le_refl _) hV.size))
  clear hr hf hp hpl hm
  go_enter Try.func26, Try.ntmps26
  go_wp2
  go_loopg [10] ms.length (fun q iv wr => ∃ j : Nat, j + q = ms.length ∧ iv = .int .i64 (j : Nat) ∧ (∀ k, k < j → k = i ∨ dnZ ps k = true ∨ edgeD (atD (dz ms) k) (atD (dz ms) i) = false) ∧ Below w.heap.size w wr)
  case atStart => exact ⟨0, by omega, rfl, (fun k hk => absurd hk (by omega)), Below.refl _ _⟩
  case round =>
    obtain ⟨j, hj, rfl, hn, hb⟩ := hrel
    obtain ⟨wo, hwo⟩ : ∃ y, y = wr := ⟨_, rfl⟩
    subst hwo
    have HJ := Lib.hid hj
    have HN := Lib.hid hn
    have HB := Lib.hid hb
    clear hj hn hb
    by_cases hjn : j < ms.length
    · have hlt : decide ((j : Int) < (ms.length : Int)) = true := by simpa using hjn
      have hlt2 : decide (j < ms.length) = true := by simpa using hjn
      have q7 : (j : Int) < (ms.length : Int) := by omega
      obtain ⟨b, o, rfl, hbl, hs1, hs2⟩ := (HR.out.below HB.out (Nat.le_refl _) HB.out.size).elem2 hjn hi
      have hfx := HFw.out _ (List.getElem_mem hjn)
      have hfy := HFw.out _ (List.getElem_mem hi)
      have hox := (HR.out.below HB.out (Nat.le_refl _) HB.out.size).2.2.2.2 _ (List.getElem_mem hjn)
      have hoy := (HR.out.below HB.out (Nat.le_refl _) HB.out.size).2.2.2.2 _ (List.getElem_mem hi)
      have HNx := Lib.hid (fun (q : j = i ∨ dnZ ps j = true ∨ edgeD (ms[j]'hjn).d (ms[i]'hi).d = false) => (show ∀ k, k < j + 1 → k = i ∨ dnZ ps k = true ∨ edgeD (atD (dz ms) k) (atD (dz ms) i) = false from fun k hk => by
        by_cases z : k < j
        · exact HN.out k z
        · have : k = j := by omega
          subst this
          rw [dz_at hjn, dz_at hi]
          exact q))
      have HNo := Lib.hid (fun (q1 : j ≠ i) (q2 : dnZ ps j = false) (q3 : edgeD (ms[j]'hjn).d (ms[i]'hi).d = true) => (show freeD (dz ms) (dnZ ps) i = false by
        unfold freeD
        rw [List.all_eq_false]
        refine ⟨j, List.mem_range.2 (by rw [dz_len]; exact hjn), ?_⟩
        rw [dz_at hjn, dz_at hi, q2, q3]
        simpa using q1))
      have HInj := Lib.hid (fun (V : World) (hV : Below wo.heap.size wo V) => (HIn.out V (HB.out.trans (hV.mono HB.out.size)) (j : Nat)).mono fun r w' (q : r = .returned (.bool (dnZ ps j)) ∧ Below V.heap.size V w') => (⟨q.1, hV.trans (q.2.mono hV.size)⟩ : r = .returned (.bool (dnZ ps j)) ∧ Below wo.heap.size wo w'))
      have HEd := Lib.hid (fun (V : World) (hV : Below wo.heap.size wo V) => (refEdge_any _ _ V hfx hfy (hox.below hV (Nat.le_refl _) hV.size) (hoy.below hV (Nat.le_refl _) hV.size)).mono fun r w' (q : r = .returned (.bool (edgeD (ms[j]'hjn).d (ms[i]'hi).d)) ∧ Below V.heap.size V w') => (⟨q.1, hV.trans (q.2.mono hV.size)⟩ : r = .returned (.bool (edgeD (ms[j]'hjn).d (ms[i]'hi).d)) ∧ Below wo.heap.size wo w'))
      have HPc := Lib.hid (fun (V : World) (hV : Below wo.heap.size wo V) => And.intro ((hs1.below hV hbl).all) ((hs2.below hV hbl).all))
      clear hs1 hs2 hfx hfy hox hoy hbl
      generalize ms[j]'hjn = x at *
      generalize ms[i]'hi = y at *
      clear hjn
      obtain ⟨⟨xi, xb, xa, xs, xe, xr, xw⟩, xA, xc, xB, xd⟩ := x
      obtain ⟨⟨yi, yb, ya, ys, ye, yr, yw⟩, yA, yc, yB, yd⟩ := y
      unfold mzVal at HEd
      simp only at HEd HPc HNx HNo
      generalize edgeD ⟨xi, xb, xa, xs, xe, xr, xw⟩ ⟨yi, yb, ya, ys, ye, yr, yw⟩ = ev at *
      generalize hdv : dnZ ps j = dv at *
      by_cases hji : j = i
      · have e1 : ((j : Int) != (i : Int)) = false := by rw [bne_eq_false_iff_eq]; omega
        have HG := Lib.hid (HNx.out (.inl hji))
        clear hji hdv
        go_wp2_with fail
        refine wp_region_classJ (C := fun W => Below wo.heap.size wo W) (by kernel_rfl) (by kernel_rfl) ((Below.refl _ _).drew) ?_
        repeat (
          refine no_implicit_lambda% (wpQuiet_step ?_)
          intro K hK
          go_simp
          first
          | (refine no_implicit_lambda% (hK _ ?_); clear hK K)
          | (apply Exists.intro
             refine ⟨fun _ => ?_, hK _ ?_⟩
             (first
                 | (intro hw; with_reducible exact HInj.out _ hw)
                 | (intro hw; with_reducible exact HEd.out _ hw)
                 | (intro hw; obtain ⟨⟨x0, x1, x2, x3, x4, x5, x6⟩, ⟨y0, y1, y2, y3, y4, y5, y6⟩⟩ := HPc.out _ hw; go_simp; with_reducible exact ⟨rfl, rfl⟩)
                 | (intro hw; obtain ⟨⟨x0, x1, x2, x3, x4, x5, x6⟩, ⟨y0, y1, y2, y3, y4, y5, y6⟩⟩ := HPc.out _ hw; go_simp; with_reducible rfl)
                 | (intro _; with_reducible rfl)
                 | (intro hw; go_simp; with_reducible exact ⟨rfl, rfl⟩)
                 | (intro hw; go_simp; with_reducible exact rfl))
             clear hK K))
        refine wpQuiet_nil ?_
        intro w8 hb8
        have HB8 := Lib.hid (HB.out.trans (hb8.mono HB.out.size))
        clear hb8
        go_wp2_with fail
        go_roundg (gk - 1)
        case measure => have := HJ.out; omega
        case rel => exact ⟨j + 1, by have := HJ.out; omega, by go_num, HG.out, HB8.out⟩
      · have e1 : ((j : Int) != (i : Int)) = true := by rw [bne_iff_ne]; omega
        have HJi := Lib.hid hji
        clear hji
        cases dv with
        | true =>
          have HG := Lib.hid (HNx.out (.inr (.inl rfl)))
          clear hdv
          go_wp2_with fail
          refine wp_region_classJ (C := fun W => Below wo.heap.size wo W) (by kernel_rfl) (by kernel_rfl) ((Below.refl _ _).drew) ?_
          repeat (
            refine no_implicit_lambda% (wpQuiet_step ?_)
            intro K hK
            go_simp
            first
            | (refine no_implicit_lambda% (hK _ ?_); clear hK K)
            | (apply Exists.intro
               refine ⟨fun _ => ?_, hK _ ?_⟩
               (first
                   | (intro hw; with_reducible exact HInj.out _ hw)
                   | (intro hw; with_reducible exact HEd.out _ hw)
                   | (intro hw; obtain ⟨⟨x0, x1, x2, x3, x4, x5, x6⟩, ⟨y0, y1, y2, y3, y4, y5, y6⟩⟩ := HPc.out _ hw; go_simp; with_reducible exact ⟨rfl, rfl⟩)
                   | (intro hw; obtain ⟨⟨x0, x1, x2, x3, x4, x5, x6⟩, ⟨y0, y1, y2, y3, y4, y5, y6⟩⟩ := HPc.out _ hw; go_simp; with_reducible rfl)
                   | (intro _; with_reducible rfl)
                   | (intro hw; go_simp; with_reducible exact ⟨rfl, rfl⟩)
                   | (intro hw; go_simp; with_reducible exact rfl))
               clear hK K))
          refine wpQuiet_nil ?_
          intro w8 hb8
          have HB8 := Lib.hid (HB.out.trans (hb8.mono HB.out.size))
          clear hb8
          go_wp2_with fail
          go_roundg (gk - 1)
          case measure => have := HJ.out; omega
          case rel => exact ⟨j + 1, by have := HJ.out; omega, by go_num, HG.out, HB8.out⟩
        | false =>
          clear hdv
          cases ev with
          | false =>
            have HG := Lib.hid (HNx.out (.inr (.inr rfl)))
            go_wp2_with fail
            refine wp_region_classJ (C := fun W => Below wo.heap.size wo W) (by kernel_rfl) (by kernel_rfl) ((Below.refl _ _).drew) ?_
            repeat (
              refine no_implicit_lambda% (wpQuiet_step ?_)
              intro K hK
              go_simp
              first
              | (refine no_implicit_lambda% (hK _ ?_); clear hK K)
              | (apply Exists.intro
                 refine ⟨fun _ => ?_, hK _ ?_⟩
                 (first
                     | (intro hw; with_reducible exact HInj.out _ hw)
                     | (intro hw; with_reducible exact HEd.out _ hw)
                     | (intro hw; obtain ⟨⟨x0, x1, x2, x3, x4, x5, x6⟩, ⟨y0, y1, y2, y3, y4, y5, y6⟩⟩ := HPc.out _ hw; go_simp; with_reducible exact ⟨rfl, rfl⟩)
                     | (intro hw; obtain ⟨⟨x0, x1, x2, x3, x4, x5, x6⟩, ⟨y0, y1, y2, y3, y4, y5, y6⟩⟩ := HPc.out _ hw; go_simp; with_reducible rfl)
                     | (intro _; with_reducible rfl)
                     | (intro hw; go_simp; with_reducible exact ⟨rfl, rfl⟩)
                     | (intro hw; go_simp; with_reducible exact rfl))
                 clear hK K))
            refine wpQuiet_nil ?_
            intro w8 hb8
            have HB8 := Lib.hid (HB.out.trans (hb8.mono HB.out.size))
            clear hb8
            go_wp2_with fail
            go_roundg (gk - 1)
            case measure => have := HJ.out; omega
            case rel => exact ⟨j + 1, by have := HJ.out; omega, by go_num, HG.out, HB8.out⟩
          | true =>
            have HF := Lib.hid (HNo.out HJi.out rfl rfl)
            go_wp2_with fail
            refine wp_region_classJ (C := fun W => Below wo.heap.size wo W) (by kernel_rfl) (by kernel_rfl) ((Below.refl _ _).drew) ?_
            repeat (
              refine no_implicit_lambda% (wpQuiet_step ?_)
              intro K hK
              go_simp
              first
              | (refine no_implicit_lambda% (hK _ ?_); clear hK K)
              | (apply Exists.intro
                 refine ⟨fun _ => ?_, hK _ ?_⟩
                 (first
                     | (intro hw; with_reducible exact HInj.out _ hw)
                     | (intro hw; with_reducible exact HEd.out _ hw)
                     | (intro hw; obtain ⟨⟨x0, x1, x2, x3, x4, x5, x6⟩, ⟨y0, y1, y2, y3, y4, y5, y6⟩⟩ := HPc.out _ hw; go_simp; with_reducible exact ⟨rfl, rfl⟩)
                     | (intro hw; obtain ⟨⟨x0, x1, x2, x3, x4, x5, x6⟩, ⟨y0, y1, y2, y3, y4, y5, y6⟩⟩ := HPc.out _ hw; go_simp; with_reducible rfl)
                     | (intro _; with_reducible rfl)
                     | (intro hw; go_simp; with_reducible exact ⟨rfl, rfl⟩)
                     | (intro hw; go_simp; with_reducible exact rfl))
                 clear hK K))
            refine wpQuiet_nil ?_
            intro w8 hb8
            have HB8 := Lib.hid (HB.out.trans (hb8.mono HB.out.size))
            clear hb8
            go_wp2_with fail
            go_ret
            rw [HF.out]
            exact ⟨rfl, HB8.out⟩
    · have hlt : decide ((j : Int) < (ms.length : Int)) = false := by simpa using hjn
      have hlt2 : decide (j < ms.length) = false := by simpa using hjn
      have HF := Lib.hid (show freeD (dz ms) (dnZ ps) i = true by
        unfold freeD
        rw [List.all_eq_true]
        intro k hk
        have hk' := List.mem_range.1 hk
        rw [dz_len] at hk'
        rcases HN.out k (by omega) with q | q | q
        · simp [q]
        · simp [q]
        · simp [q])
      clear hjn
      go_wp2_with fail
      go_ret
      rw [HF.out]
      exact ⟨rfl, HB.out⟩
end Go.Proofs.Ytfdiidhilonkoaa
