import Derived.Test.YtjkmodfbbiojmaaZC16
import Derived.Test.YtjkmodfbbiojmaaZC07
import Derived.Deep.LoopGhost
/-
  Records, the document's own answers: Same of two lists.
-/
namespace Go.Proofs.Ytjkmodfbbiojmaa
open Go.RowKit

theorem sameR_len {a b : List RecS} (h : a.length ≠ b.length) : sameR a b = false := by
  unfold sameR
  rw [decide_eq_false_iff_not]
  intro e
  exact h (by rw [e])
theorem sameR_no {a b : List RecS} {j : Nat} (h1 : j < a.length) (h2 : j < b.length) (h : sameOneR (a[j]'h1) (b[j]'h2) = false) : sameR a b = false := by
  unfold sameR
  rw [decide_eq_false_iff_not]
  intro e
  subst e
  simp [sameOneR] at h
theorem sameR_take {a b : List RecS} {j : Nat} (h1 : j < a.length) (h2 : j < b.length) (h0 : a.take j = b.take j) (h : sameOneR (a[j]'h1) (b[j]'h2) = true) : a.take (j + 1) = b.take (j + 1) := by
  rw [List.take_succ_eq_append_getElem h1, List.take_succ_eq_append_getElem h2, h0]
  simp only [sameOneR, decide_eq_true_eq] at h
  rw [h]
theorem sameR_all {a b : List RecS} {j : Nat} (hl : a.length = b.length) (hj : j = b.length) (h0 : a.take j = b.take j) : sameR a b = true := by
  subst hj
  rw [List.take_length, ← hl, List.take_length] at h0
  unfold sameR
  rw [decide_eq_true_iff]
  exact h0
set_option maxRecDepth 100000 in
set_option maxHeartbeats 8000000 in
theorem refSameM_any (a b : List RecS) (A B : Option Addr) (c d : Nat) (w : World) (ha : okRs a) (hb : okRs b) (h1 : ChR w w.heap.size A c a) (h2 : ChR w w.heap.size B d b) :
    Calls Try.prog 13 #[.slice A a.length c, .slice B b.length d] w fun r w' => r = .returned (.bool (sameR a b)) ∧ Below w.heap.size w w' := by
  have hla := h1.len
  have hlb := h2.len
  by_cases hlen : a.length = b.length
  · have HR := Lib.hid h1
    have HS := Lib.hid h2
    have HOA := Lib.hid ha
    have HOB := Lib.hid hb
    have HLen := Lib.hid hlen
    rw [hlen]
    clear h1 h2 ha hb hla hlen
    go_enter Try.func13, Try.ntmps13
    go_wp2
    go_loopg [5, 13] b.length (fun q _ i wr => ∃ j : Nat, j + q = b.length ∧ i = .int .i64 j ∧ a.take j = b.take j ∧ Below w.heap.size w wr)
    case atStart => exact ⟨0, by omega, rfl, rfl, Below.refl _ _⟩
    case round =>
      obtain ⟨j, hk, rfl, hall, hb⟩ := hrel
      obtain ⟨wo, hwo⟩ : ∃ y, y = wr := ⟨_, rfl⟩
      subst hwo
      have HK := Lib.hid hk
      have HA := Lib.hid hall
      have HB := Lib.hid hb
      clear hall hb hk
      by_cases hjm : j < b.length
      · have hlt : decide ((j : Int) < (b.length : Int)) = true := by simpa using hjm
        have hlt3 : decide (j < b.length) = true := by simpa using hjm
        have hj : j < a.length := by rw [HLen.out]; exact hjm
        obtain ⟨bx, ox, rfl, hbx, x, ex, okx, c0, c1, c2, c3, c4, c5⟩ := (HR.out.below HB.out (Nat.le_refl _) HB.out.size).2.2.2.at_ hj
        obtain ⟨by_, oy, rfl, hby, y, ey, oky, d0, d1, d2, d3, d4, d5⟩ := (HS.out.below HB.out (Nat.le_refl _) HB.out.size).2.2.2.at_ hjm
        have HT := Lib.hid (fun h : sameOneR x.r y.r = true => sameR_take hj hjm HA.out (by rw [← ex, ← ey]; exact h))
        have HNo := Lib.hid (fun h : sameOneR x.r y.r = false => sameR_no hj hjm (by rw [← ex, ← ey]; exact h))
        have hox : okR x.r := by rw [ex]; exact HOA.out.mem (List.getElem_mem hj)
        have hoy : okR y.r := by rw [ey]; exact HOB.out.mem (List.getElem_mem hjm)
        have HEq := Lib.hid (fun (W : World) (h : Below wo.heap.size wo W) => (refSameOneM_any x y W hox hoy (okx.below h (Nat.le_refl _) h.size) (oky.below h (Nat.le_refl _) h.size)).mono fun r w' (q : r = .returned (.bool (sameOneR x.r y.r)) ∧ Below W.heap.size W w') => (⟨q.1, h.trans (q.2.mono h.size)⟩ : r = .returned (.bool (sameOneR x.r y.r)) ∧ Below wo.heap.size wo w'))
        clear hox hoy okx oky ex ey
        generalize hE : sameOneR x.r y.r = E at *
        obtain ⟨⟨xf, xl, xb, xo, xr, xw⟩, xA, xc, xB, xd⟩ := x
        obtain ⟨⟨yf, yl, yb, yo, yr, yw⟩, yA, yc, yB, yd⟩ := y
        unfold recVal at HEq
        simp only at c0 c1 c2 c3 c4 c5 d0 d1 d2 d3 d4 d5 HEq
        have HCl := Lib.hid (fun (W : World) (h : Below wo.heap.size wo W) => And.intro ((h.cell (p := ⟨bx, ox + j * 6, none⟩) hbx).trans c0) (And.intro ((h.cell (p := ⟨bx, ox + j * 6 + 1, none⟩) hbx).trans c1) (And.intro ((h.cell (p := ⟨bx, ox + j * 6 + 2, none⟩) hbx).trans c2) (And.intro ((h.cell (p := ⟨bx, ox + j * 6 + 3, none⟩) hbx).trans c3) (And.intro ((h.cell (p := ⟨bx, ox + j * 6 + 4, none⟩) hbx).trans c4) (And.intro ((h.cell (p := ⟨bx, ox + j * 6 + 5, none⟩) hbx).trans c5)
          (And.intro ((h.cell (p := ⟨by_, oy + j * 6, none⟩) hby).trans d0) (And.intro ((h.cell (p := ⟨by_, oy + j * 6 + 1, none⟩) hby).trans d1) (And.intro ((h.cell (p := ⟨by_, oy + j * 6 + 2, none⟩) hby).trans d2) (And.intro ((h.cell (p := ⟨by_, oy + j * 6 + 3, none⟩) hby).trans d3) (And.intro ((h.cell (p := ⟨by_, oy + j * 6 + 4, none⟩) hby).trans d4) ((h.cell (p := ⟨by_, oy + j * 6 + 5, none⟩) hby).trans d5))))))))))))
        clear c0 c1 c2 c3 c4 c5 d0 d1 d2 d3 d4 d5 hbx hby
        go_wp2
        cases E with
        | false =>
          have HF := Lib.hid (HNo.out rfl)
          clear HNo HT hE
          refine wp_region_classJ (C := fun W => Below wo.heap.size wo W) (by kernel_rfl) (by kernel_rfl) ((Below.refl _ _).drew) ?_
          repeat (
            refine no_implicit_lambda% (wpQuiet_step ?_)
            intro K hK
            go_simp
            first
            | (refine no_implicit_lambda% (hK _ ?_); clear hK K)
            | (apply Exists.intro
               refine ⟨fun _ => ?_, hK _ ?_⟩
               (first
                   | (intro hw; with_reducible exact HEq.out _ hw)
                   | (intro hw; obtain ⟨z0, z1, z2, z3, z4, z5, z6, z7, z8, z9, z10, z11⟩ := HCl.out _ hw; go_simp; with_reducible exact ⟨rfl, rfl⟩)
                   | (intro hw; obtain ⟨z0, z1, z2, z3, z4, z5, z6, z7, z8, z9, z10, z11⟩ := HCl.out _ hw; go_simp; with_reducible rfl)
                   | (intro _; with_reducible rfl)
                   | (intro hw; go_simp; with_reducible exact ⟨rfl, rfl⟩)
                   | (intro hw; go_simp; with_reducible exact rfl))
               clear hK K))
          refine wpQuiet_nil ?_
          intro w8 hb8
          have HB8 := Lib.hid (HB.out.trans (hb8.mono HB.out.size))
          clear hb8
          go_wp2_with fail
          go_ret
          rw [HF.out]
          exact ⟨rfl, HB8.out⟩
        | true =>
          have HF := Lib.hid (HT.out rfl)
          clear HNo HT hE
          refine wp_region_classJ (C := fun W => Below wo.heap.size wo W) (by kernel_rfl) (by kernel_rfl) ((Below.refl _ _).drew) ?_
          repeat (
            refine no_implicit_lambda% (wpQuiet_step ?_)
            intro K hK
            go_simp
            first
            | (refine no_implicit_lambda% (hK _ ?_); clear hK K)
            | (apply Exists.intro
               refine ⟨fun _ => ?_, hK _ ?_⟩
               (first
                   | (intro hw; with_reducible exact HEq.out _ hw)
                   | (intro hw; obtain ⟨z0, z1, z2, z3, z4, z5, z6, z7, z8, z9, z10, z11⟩ := HCl.out _ hw; go_simp; with_reducible exact ⟨rfl, rfl⟩)
                   | (intro hw; obtain ⟨z0, z1, z2, z3, z4, z5, z6, z7, z8, z9, z10, z11⟩ := HCl.out _ hw; go_simp; with_reducible rfl)
                   | (intro _; with_reducible rfl)
                   | (intro hw; go_simp; with_reducible exact ⟨rfl, rfl⟩)
                   | (intro hw; go_simp; with_reducible exact rfl))
               clear hK K))
          refine wpQuiet_nil ?_
          intro w8 hb8
          have HB8 := Lib.hid (HB.out.trans (hb8.mono HB.out.size))
          clear hb8
          go_wp2_with fail
          go_roundg (gk - 1)
          case measure => have := HK.out; omega
          case rel => exact ⟨j + 1, by have := HK.out; omega, by go_num, HF.out, HB8.out⟩
      · have hj' : j = b.length := by have := HK.out; omega
        have hlt : decide ((j : Int) < (b.length : Int)) = false := by simpa using hjm
        have HF := Lib.hid (sameR_all HLen.out hj' HA.out)
        clear hj'
        go_wp2
        go_ret
        rw [HF.out]
        exact ⟨rfl, HB.out⟩
  · have hle : ((a.length : Int) == (b.length : Int)) = false := by rw [beq_eq_false_iff_ne]; omega
    have hle2 : ((a.length : Int) != (b.length : Int)) = true := by rw [bne, hle]; rfl
    rw [sameR_len hlen]
    clear hlen h1 h2 ha hb
    go_enter Try.func13, Try.ntmps13
    go_wp2
    go_ret
    exact ⟨rfl, Below.refl _ _⟩
end Go.Proofs.Ytjkmodfbbiojmaa
