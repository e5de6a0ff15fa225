import Derived.Test.YtfdiidhilonkoaaZC33
set_option linter.unusedVariables false
/-
  Package order, the document's own answers: Right, SameInts.
-/
namespace Go.Proofs.Ytfdiidhilonkoaa
open Go.RowKit

def RightAns (l : List DoneZ) (ps : List Int) (w : World) (r : Ending) (w' : World) : Prop := ∃ b, r = .returned (.bool b) ∧ (b = true ↔ RightZ l ps) ∧ Below w.heap.size w w'
theorem rightAns {l : List DoneZ} {ps : List Int} {w : World} {r : Ending} {w' : World} (h : ∃ b, r = .returned (.bool b) ∧ (b = true ↔ RightZ l ps) ∧ Below w.heap.size w w') : RightAns l ps w r w' := h
set_option maxRecDepth 100000 in
set_option maxHeartbeats 16000000 in
theorem refRight_any (ms : List MZ) (A : Option Addr) (c : Nat) (ps : List Int) (B : Option Addr) (d : Nat) (w : World) (hr : ChZ w w.heap.size A c ms) (hf : ∀ x ∈ ms, fewMZ x) (hl : ms.length ≤ 1000) (hp : RowG inZ w 0 w.heap.size B ps) (hpl : ps.length ≤ d) (hdl : d ≤ 9223372036854775807) :
    Calls Try.prog 12 #[.slice A ms.length c, .slice B ps.length d] w (RightAns (dz ms) ps w) := by
  have q9 : (ms.length : Int) ≤ 1000 := by omega
  by_cases hlen : ps.length = ms.length
  · have HLen := Lib.hid hlen
    have HP := Lib.hid hp
    have HR := Lib.hid hr
    have HFw := Lib.hid hf
    have HIn := Lib.hid (fun (V : World) (hV : Below w.heap.size w V) (j : Nat) (hj : j ≤ ps.length) (z : Int) => refInO_any (ps.take j) j (by rw [List.length_take]; omega) B d z V (by rw [List.length_take]; omega) (((hp.below hV (Nat.le_refl _)).take inZF j).wide (Nat.le_refl _) hV.size))
    have q8 : (ms.length : Int) ≤ (d : Int) := by omega
    have q10 : (d : Int) ≤ 9223372036854775807 := by omega
    rw [hlen]
    have hn2 : ((ms.length : Int) != (ms.length : Int)) = false := by simp
    clear hr hf hp hlen hpl hdl
    go_enter Try.func12, Try.ntmps12
    go_wp2
    go_loopg [16] ms.length (fun q iv wr => ∃ j : Nat, j + q = ms.length ∧ iv = .int .i64 (j : Nat) ∧ PreZ (dz ms) (ps.take j) ∧ Below w.heap.size w wr)
    case atStart => exact ⟨0, by omega, rfl, preZ_nil _, Below.refl _ _⟩
    case round =>
      obtain ⟨j, hj, rfl, hL, hb⟩ := hrel
      obtain ⟨g0, hg0⟩ : ∃ y, y = gk := ⟨_, rfl⟩
      subst hg0
      obtain ⟨wo, hwo⟩ : ∃ y, y = wr := ⟨_, rfl⟩
      subst hwo
      have HJ := Lib.hid hj
      have HL := Lib.hid hL
      have HB := Lib.hid hb
      clear hj hL hb
      by_cases hjn : j < ms.length
      · have hlt : decide ((j : Int) < (ms.length : Int)) = true := by simpa using hjn
        have hlt2 : decide (j < ms.length) = true := by simpa using hjn
        have hjp : j < ps.length := by rw [HLen.out]; exact hjn
        have q7 : (j : Int) < (ms.length : Int) := by omega
        have q11 : (j : Int) ≤ (d : Int) := by omega
        obtain ⟨b, o, rfl, _, hbl, hc⟩ := (HP.out.below HB.out (Nat.le_refl _)).at_ inZF hjp
        have c0 := hc 0 (.int .i64 ps[j]) rfl
        have HTk := Lib.hid (List.take_succ_eq_append_getElem hjp)
        have HPre := Lib.hid (fun (q : RightZ (dz ms) ps) => q.pre (take_mid hjp))
        have HInj := Lib.hid (fun (z : Int) => HIn.out wo HB.out j (Nat.le_of_lt hjp) z)
        have HJp := Lib.hid hjp
        simp only [Nat.add_zero, Nat.mul_one] at c0
        clear hc hbl
        generalize ps[j] = p at *
        clear hjp hjn
        by_cases hp0 : p < 0
        · have d1 : decide (p < 0) = true := by simpa using hp0
          have HNo := Lib.hid (show ¬ RightZ (dz ms) ps from fun q => by have := (HPre.out q).1; omega)
          clear hp0
          go_wp2_with fail
          go_ret
          exact rightAns ⟨false, rfl, by simp [HNo.out], HB.out⟩
        · have d1 : decide (p < 0) = false := by simpa using (by omega : 0 ≤ p)
          by_cases hpn : (ms.length : Int) ≤ p
          · have d2 : decide (p ≥ (ms.length : Int)) = true := by simpa using hpn
            have d3 : decide ((ms.length : Int) ≤ p) = true := by simpa using hpn
            have HNo := Lib.hid (show ¬ RightZ (dz ms) ps from fun q => by have := (HPre.out q).2.1; rw [dz_len] at this; omega)
            clear hp0 hpn
            go_wp2_with fail
            go_ret
            exact rightAns ⟨false, rfl, by simp [HNo.out], HB.out⟩
          · have d2 : decide (p ≥ (ms.length : Int)) = false := by simpa using (by omega : p < (ms.length : Int))
            have d3 : decide ((ms.length : Int) ≤ p) = false := by simpa using (by omega : p < (ms.length : Int))
            obtain ⟨k, rfl⟩ : ∃ k : Nat, p = (k : Int) := ⟨p.toNat, by omega⟩
            have hkn : k < ms.length := by omega
            have q3 : (k : Int) < (ms.length : Int) := by omega
            have d4 : decide (ms.length ≤ k) = false := by simpa using hkn
            have HI := Lib.hid (HInj.out (k : Nat))
            clear hp0 hpn
            cases hdk : decide ((k : Int) ∈ ps.take j) with
            | true =>
              rw [hdk] at HI
              have HNo := Lib.hid (show ¬ RightZ (dz ms) ps from fun q => (HPre.out q).2.2.1 (of_decide_eq_true hdk))
              clear hdk
              go_wp2_with fail
              (with_reducible refine HI.out.mono ?_)
              rintro r w5 ⟨rfl, hb5⟩
              have HB5 := Lib.hid (HB.out.trans (hb5.mono HB.out.size))
              clear hb5
              go_wp2_with fail
              go_ret
              exact rightAns ⟨false, rfl, by simp [HNo.out], HB5.out⟩
            | false =>
              rw [hdk] at HI
              have HNin := Lib.hid (of_decide_eq_false hdk)
              have HKn := Lib.hid hkn
              clear hdk
              go_wp2_with fail
              (with_reducible refine HI.out.mono ?_)
              rintro r w5 ⟨rfl, hb5⟩
              have HB5 := Lib.hid (HB.out.trans (hb5.mono HB.out.size))
              clear hb5 HI c0
              go_wp2_with fail
              go_loopg [8, 40] j (fun q _ iv wr => ∃ t : Nat, t + q = j ∧ iv = .int .i64 (t : Nat) ∧ (∀ x ∈ (ps.take j).take t, edgeD (atD (dz ms) k) (atD (dz ms) x.toNat) = false) ∧ Below w.heap.size w wr)
              case atStart => exact ⟨0, by omega, rfl, by simp, HB5.out⟩
              case round =>
                obtain ⟨t, ht, rfl, hN, hb⟩ := hrel
                obtain ⟨wq, hwq⟩ : ∃ y, y = wr := ⟨_, rfl⟩
                subst hwq
                have HT := Lib.hid ht
                have HN := Lib.hid hN
                clear HB
                have HB := Lib.hid hb
                clear ht hN hb HB5
                by_cases htj : t < j
                · have hlt3 : decide ((t : Int) < (j : Int)) = true := by simpa using htj
                  have hlt4 : decide (t < j) = true := by simpa using htj
                  have htp : t < (ps.take j).length := by rw [List.length_take]; have := HJp.out; omega
                  have q12 : (t : Int) < (j : Int) := by omega
                  obtain ⟨b2, o2, e2, _, hbl2, hc⟩ := (((HP.out.below HB.out (Nat.le_refl _)).take inZF j)).at_ inZF htp
                  injection e2 with e2
                  injection e2 with e3 e4
                  subst e3 e4
                  have hin := HL.out.1 _ (List.getElem_mem htp)
                  have c0 := hc 0 (.int .i64 (ps.take j)[t]) rfl
                  have HTk2 := Lib.hid (List.take_succ_eq_append_getElem htp)
                  have HEx := Lib.hid (fun (q : RightZ (dz ms) ps) => (HPre.out q).2.2.2 _ (List.getElem_mem htp))
                  simp only [Nat.add_zero, Nat.mul_one] at c0
                  clear hc hbl2
                  generalize (ps.take j)[t] = y at *
                  clear htp
                  obtain ⟨i, rfl⟩ : ∃ i : Nat, y = (i : Int) := ⟨y.toNat, by omega⟩
                  have hi : i < ms.length := by have := hin.2; rw [dz_len] at this; omega
                  have q13 : (i : Int) < (ms.length : Int) := by omega
                  clear hin
                  obtain ⟨b3, o3, rfl, hbl, hs1, hs2⟩ := (HR.out.below HB.out (Nat.le_refl _) HB.out.size).elem2 hkn hi
                  have hfx := HFw.out _ (List.getElem_mem hkn)
                  have hfy := HFw.out _ (List.getElem_mem hi)
                  have hox := (HR.out.below HB.out (Nat.le_refl _) HB.out.size).2.2.2.2 _ (List.getElem_mem hkn)
                  have hoy := (HR.out.below HB.out (Nat.le_refl _) HB.out.size).2.2.2.2 _ (List.getElem_mem hi)
                  have HEd := Lib.hid (fun (V : World) (hV : Below wq.heap.size wq V) => (refEdge_any _ _ V hfx hfy (hox.below hV (Nat.le_refl _) hV.size) (hoy.below hV (Nat.le_refl _) hV.size)).mono fun r w' (q : r = .returned (.bool (edgeD (ms[k]'hkn).d (ms[i]'hi).d)) ∧ Below V.heap.size V w') => (⟨q.1, hV.trans (q.2.mono hV.size)⟩ : r = .returned (.bool (edgeD (ms[k]'hkn).d (ms[i]'hi).d)) ∧ Below wq.heap.size wq w'))
                  have HPc := Lib.hid (fun (V : World) (hV : Below wq.heap.size wq V) => And.intro ((hs1.below hV hbl).all) ((hs2.below hV hbl).all))
                  have HNx := Lib.hid (fun (q : edgeD (ms[k]'hkn).d (ms[i]'hi).d = false) => (show ∀ x ∈ (ps.take j).take (t + 1), edgeD (atD (dz ms) k) (atD (dz ms) x.toNat) = false from fun x hx => by
                    rw [HTk2.out] at hx
                    rcases List.mem_append.1 hx with hx | hx
                    · exact HN.out x hx
                    · rw [List.mem_singleton] at hx
                      subst hx
                      rw [Int.toNat_natCast, dz_at hkn, dz_at hi]
                      exact q))
                  have HNo := Lib.hid (fun (q : edgeD (ms[k]'hkn).d (ms[i]'hi).d = true) => (show ¬ RightZ (dz ms) ps from fun hR => by
                    have := HEx.out hR
                    rw [Int.toNat_natCast, Int.toNat_natCast, dz_at hkn, dz_at hi, q] at this
                    cases this))
                  clear hs1 hs2 hfx hfy hox hoy hbl
                  generalize ms[k]'hkn = x at *
                  generalize ms[i]'hi = y at *
                  clear hi htj
                  obtain ⟨⟨xi, xb, xa, xs, xe, xr, xw⟩, xA, xc, xB, xd⟩ := x
                  obtain ⟨⟨yi, yb, ya, ys, ye, yr, yw⟩, yA, yc, yB, yd⟩ := y
                  unfold mzVal at HEd
                  simp only at HEd HPc HNx HNo
                  generalize edgeD ⟨xi, xb, xa, xs, xe, xr, xw⟩ ⟨yi, yb, ya, ys, ye, yr, yw⟩ = ev at *
                  go_wp2_with fail
                  clear c0
                  refine wp_region_classJ (C := fun W => Below wq.heap.size wq W) (by kernel_rfl) (by kernel_rfl) ((Below.refl _ _).drew) ?_
                  repeat (
                    refine no_implicit_lambda% (wpQuiet_step ?_)
                    intro K hK
                    go_simp
                    first
                    | (refine no_implicit_lambda% (hK _ ?_); clear hK K)
                    | (apply Exists.intro
                       refine ⟨fun _ => ?_, hK _ ?_⟩
                       (first
                           | (intro hw; with_reducible exact HEd.out _ hw)
                           | (intro hw; obtain ⟨⟨x0, x1, x2, x3, x4, x5, x6⟩, ⟨y0, y1, y2, y3, y4, y5, y6⟩⟩ := HPc.out _ hw; go_simp; with_reducible exact ⟨rfl, rfl⟩)
                           | (intro hw; obtain ⟨⟨x0, x1, x2, x3, x4, x5, x6⟩, ⟨y0, y1, y2, y3, y4, y5, y6⟩⟩ := HPc.out _ hw; go_simp; with_reducible rfl)
                           | (intro _; with_reducible rfl)
                           | (intro hw; go_simp; with_reducible exact ⟨rfl, rfl⟩)
                           | (intro hw; go_simp; with_reducible exact rfl))
                       clear hK K))
                  refine wpQuiet_nil ?_
                  intro w8 hb8
                  have HB8 := Lib.hid (HB.out.trans (hb8.mono HB.out.size))
                  clear hb8
                  cases ev with
                  | true =>
                    have HF := Lib.hid (HNo.out rfl)
                    go_wp2_with fail
                    go_ret
                    exact rightAns ⟨false, rfl, by simp [HF.out], HB8.out⟩
                  | false =>
                    have HG := Lib.hid (HNx.out rfl)
                    go_wp2_with fail
                    go_roundg (gk - 1)
                    case measure => have := HT.out; omega
                    case rel => exact ⟨t + 1, by have := HT.out; omega, by go_num, HG.out, HB8.out⟩
                · have hlt3 : decide ((t : Int) < (j : Int)) = false := by simpa using htj
                  have hlt4 : decide (t < j) = false := by simpa using htj
                  have HNext := Lib.hid (show PreZ (dz ms) (ps.take (j + 1)) by
                    rw [HTk.out]
                    refine HL.out.add (by omega) (by rw [dz_len]; exact q3) HNin.out fun b hb => ?_
                    rw [Int.toNat_natCast]
                    refine HN.out b ?_
                    rwa [List.take_of_length_le (by rw [List.length_take]; have := HT.out; omega)])
                  clear htj
                  go_wp2_with fail
                  go_roundg (g0 - 1)
                  case measure => have := HJ.out; omega
                  case rel => exact ⟨j + 1, by have := HJ.out; omega, by go_num, HNext.out, HB.out⟩
      · have hlt : decide ((j : Int) < (ms.length : Int)) = false := by simpa using hjn
        have hlt2 : decide (j < ms.length) = false := by simpa using hjn
        have HYes := Lib.hid (show RightZ (dz ms) ps from by
          have h1 : ps.take j = ps := List.take_of_length_le (by rw [HLen.out]; omega)
          have h2 := HL.out
          rw [h1] at h2
          exact ⟨by rw [dz_len]; exact HLen.out, h2.1, h2.2⟩)
        clear hjn
        go_wp2_with fail
        go_ret
        exact rightAns ⟨true, rfl, by simp [HYes.out], HB.out⟩
  · have hn : ((ps.length : Int) != (ms.length : Int)) = true := by rw [bne_iff_ne]; omega
    have HNo := Lib.hid (show ¬ RightZ (dz ms) ps from fun q => hlen (by rw [q.1, dz_len]))
    clear hr hf hp hlen
    go_enter Try.func12, Try.ntmps12
    go_wp2_with fail
    go_ret
    exact rightAns ⟨false, rfl, by simp [HNo.out], Below.refl _ _⟩
set_option maxRecDepth 100000 in
set_option maxHeartbeats 16000000 in
theorem sameInts_any (a b : List Int) (A B : Option Addr) (c d : Nat) (w : World) (hla : a.length ≤ 9223372036854775807) (hlb : b.length ≤ 9223372036854775807) (h1 : RowG inZ w 0 w.heap.size A a) (h2 : RowG inZ w 0 w.heap.size B b) :
    Calls Try.prog 15 #[.slice A a.length c, .slice B b.length d] w fun r w' => r = .returned (.bool (decide (a = b))) ∧ Below w.heap.size w w' := by
  by_cases hlen : a.length = b.length
  · have HR := Lib.hid h1
    have HS := Lib.hid h2
    have HLen := Lib.hid hlen
    rw [hlen]
    have hn2 : ((b.length : Int) != (b.length : Int)) = false := by simp
    clear h1 h2 hla hlen
    go_enter Try.func15, Try.ntmps15
    go_wp2
    go_loopg [13] b.length (fun q iv wr => ∃ j : Nat, j + q = b.length ∧ iv = .int .i64 (j : Nat) ∧ a.take j = b.take j ∧ Below w.heap.size w wr)
    case atStart => exact ⟨0, by omega, rfl, rfl, Below.refl _ _⟩
    case round =>
      obtain ⟨j, hj, rfl, hE, hb⟩ := hrel
      obtain ⟨wo, hwo⟩ : ∃ y, y = wr := ⟨_, rfl⟩
      subst hwo
      have HJ := Lib.hid hj
      have HE := Lib.hid hE
      have HB := Lib.hid hb
      clear hj hE hb
      by_cases hjn : j < b.length
      · have hlt : decide ((j : Int) < (b.length : Int)) = true := by simpa using hjn
        have hlt2 : decide (j < b.length) = true := by simpa using hjn
        have hja : j < a.length := by rw [HLen.out]; exact hjn
        have q7 : (j : Int) < (b.length : Int) := by omega
        obtain ⟨b1, o1, rfl, _, hbl1, hc1⟩ := (HR.out.below HB.out (Nat.le_refl _)).at_ inZF hja
        obtain ⟨b2, o2, rfl, _, hbl2, hc2⟩ := (HS.out.below HB.out (Nat.le_refl _)).at_ inZF hjn
        have c1 := hc1 0 (.int .i64 a[j]) rfl
        have c2 := hc2 0 (.int .i64 b[j]) rfl
        simp only [Nat.add_zero, Nat.mul_one] at c1 c2
        have HTa := Lib.hid (List.take_succ_eq_append_getElem hja)
        have HTb := Lib.hid (List.take_succ_eq_append_getElem hjn)
        have HNe := Lib.hid (fun (q : a[j] ≠ b[j]) => (show decide (a = b) = false by
          rw [decide_eq_false_iff_not]
          intro e
          subst e
          exact q rfl))
        have HPc := Lib.hid (fun (V : World) (hV : Below wo.heap.size wo V) => And.intro ((hV.cell (World.block_lt_of_cell? wo _ c1)).trans c1) ((hV.cell (World.block_lt_of_cell? wo _ c2)).trans c2))
        clear hc1 hc2 hbl1 hbl2 c1 c2
        generalize a[j] = x at *
        generalize b[j] = y at *
        clear hja hjn
        by_cases hxy : x = y
        · have e1 : (x != y) = false := by rw [bne_eq_false_iff_eq]; exact hxy
          have HG := Lib.hid (show a.take (j + 1) = b.take (j + 1) by rw [HTa.out, HTb.out, HE.out, hxy])
          clear hxy
          go_wp2_with fail
          refine wp_region_classJ (C := fun W => Below wo.heap.size wo W) (by kernel_rfl) (by kernel_rfl) ((Below.refl _ _).drew) ?_
          repeat (
            refine no_implicit_lambda% (wpQuiet_step ?_)
            intro K hK
            go_simp
            first
            | (refine no_implicit_lambda% (hK _ ?_); clear hK K)
            | (apply Exists.intro
               refine ⟨fun _ => ?_, hK _ ?_⟩
               (first
                   | (intro hw; obtain ⟨c1, c2⟩ := HPc.out _ hw; go_simp; with_reducible exact ⟨rfl, rfl⟩)
                   | (intro hw; obtain ⟨c1, c2⟩ := HPc.out _ hw; go_simp; with_reducible rfl)
                   | (intro _; with_reducible rfl)
                   | (intro hw; go_simp; with_reducible exact ⟨rfl, rfl⟩)
                   | (intro hw; go_simp; with_reducible exact rfl))
               clear hK K))
          refine wpQuiet_nil ?_
          intro w8 hb8
          have HB8 := Lib.hid (HB.out.trans (hb8.mono HB.out.size))
          clear hb8
          go_wp2_with fail
          go_roundg (gk - 1)
          case measure => have := HJ.out; omega
          case rel => exact ⟨j + 1, by have := HJ.out; omega, by go_num, HG.out, HB8.out⟩
        · have e1 : (x != y) = true := by rw [bne_iff_ne]; exact hxy
          have HF := Lib.hid (HNe.out hxy)
          clear hxy
          go_wp2_with fail
          refine wp_region_classJ (C := fun W => Below wo.heap.size wo W) (by kernel_rfl) (by kernel_rfl) ((Below.refl _ _).drew) ?_
          repeat (
            refine no_implicit_lambda% (wpQuiet_step ?_)
            intro K hK
            go_simp
            first
            | (refine no_implicit_lambda% (hK _ ?_); clear hK K)
            | (apply Exists.intro
               refine ⟨fun _ => ?_, hK _ ?_⟩
               (first
                   | (intro hw; obtain ⟨c1, c2⟩ := HPc.out _ hw; go_simp; with_reducible exact ⟨rfl, rfl⟩)
                   | (intro hw; obtain ⟨c1, c2⟩ := HPc.out _ hw; go_simp; with_reducible rfl)
                   | (intro _; with_reducible rfl)
                   | (intro hw; go_simp; with_reducible exact ⟨rfl, rfl⟩)
                   | (intro hw; go_simp; with_reducible exact rfl))
               clear hK K))
          refine wpQuiet_nil ?_
          intro w8 hb8
          have HB8 := Lib.hid (HB.out.trans (hb8.mono HB.out.size))
          clear hb8
          go_wp2_with fail
          go_ret
          rw [HF.out]
          exact ⟨rfl, HB8.out⟩
      · have hlt : decide ((j : Int) < (b.length : Int)) = false := by simpa using hjn
        have hlt2 : decide (j < b.length) = false := by simpa using hjn
        have HF := Lib.hid (show decide (a = b) = true by
          rw [decide_eq_true_iff]
          have := HE.out
          rwa [List.take_of_length_le (by rw [HLen.out]; omega), List.take_of_length_le (by omega)] at this)
        clear hjn
        go_wp2_with fail
        go_ret
        rw [HF.out]
        exact ⟨rfl, HB.out⟩
  · have hn : ((a.length : Int) != (b.length : Int)) = true := by rw [bne_iff_ne]; omega
    have HF := Lib.hid (show decide (a = b) = false by rw [decide_eq_false_iff_not]; intro e; exact hlen (by rw [e]))
    clear h1 h2 hlen
    go_enter Try.func15, Try.ntmps15
    go_wp2_with fail
    go_ret
    rw [HF.out]
    exact ⟨rfl, Below.refl _ _⟩
end Go.Proofs.Ytfdiidhilonkoaa
