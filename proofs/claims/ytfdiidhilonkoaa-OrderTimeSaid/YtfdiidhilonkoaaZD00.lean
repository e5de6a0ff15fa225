import Derived.Test.YtfdiidhilonkoaaZC38
set_option linter.unusedVariables false
/-
  The walk of OrderTime.
-/
namespace Go.Proofs.Ytfdiidhilonkoaa.orderTime
open Go.RowKit

/-- Where a number stands last in a row, up to j; -1: nowhere. -/
def ixTo (l : List Nat) (x : Nat) : Nat → Int
  | 0 => -1
  | j + 1 => if l[j]? = some x then (j : Int) else ixTo l x j
theorem ix_none {l : List Nat} {x : Nat} : ∀ j, (∀ s, s < j → l[s]? ≠ some x) → ixTo l x j = -1
  | 0, _ => rfl
  | j + 1, h => by
    unfold ixTo
    rw [if_neg (h j (by omega))]
    exact ix_none j fun s hs => h s (by omega)
theorem ix_at {l : List Nat} {x p : Nat} (hp : l[p]? = some x) (hn : ∀ s, s ≠ p → l[s]? ≠ some x) : ∀ j, p < j → ixTo l x j = (p : Int)
  | 0, h => absurd h (by omega)
  | j + 1, h => by
    unfold ixTo
    by_cases e : j = p
    · subst e
      rw [if_pos hp]
    · rw [if_neg (hn j e)]
      exact ix_at hp hn j (by omega)
theorem ix_ge {l : List Nat} {x p : Nat} (hp : l[p]? = some x) : ∀ j, p < j → (p : Int) ≤ ixTo l x j
  | 0, h => absurd h (by omega)
  | j + 1, h => by
    unfold ixTo
    by_cases e : l[j]? = some x
    · rw [if_pos e]; omega
    · rw [if_neg e]
      have : p ≠ j := fun q => e (by rw [← q]; exact hp)
      exact ix_ge hp j (by omega)
theorem time_ahead {l : List DoneZ} {res : List Nat} (h : RightO l res) {i k : Nat} (hi : i < l.length) (hk : k < l.length) (hik : i ≠ k) (he : (atD l i).end_ < (atD l k).start) : 0 ≤ ixTo res i res.length ∧ ixTo res i res.length < ixTo res k res.length := by
  obtain ⟨a, b, hab, hkb, hia, hka⟩ := ahead_pair h hi hk hik (by unfold edgeD; simp [he])
  have hnd : res.Nodup := h.2.2.imp fun q => q.1
  have hp : res[a.length]? = some i := by rw [hab]; simp
  obtain ⟨s, hs, hse⟩ := List.getElem_of_mem hkb
  have hq : res[a.length + 1 + s]? = some k := by
    rw [hab, List.getElem?_append_right (by omega), show a.length + 1 + s - a.length = s + 1 by omega, List.getElem?_cons_succ, List.getElem?_eq_getElem hs, hse]
  have hlen : a.length + 1 + s < res.length := (List.getElem?_eq_some_iff.1 hq).1
  have h1 : ixTo res i res.length = (a.length : Int) := ix_at hp (fun t ht e => by
    obtain ⟨h2, h3⟩ := List.getElem?_eq_some_iff.1 e
    obtain ⟨h4, h5⟩ := List.getElem?_eq_some_iff.1 hp
    have hpw := List.pairwise_iff_getElem.1 hnd
    rcases Nat.lt_trichotomy t a.length with z | z | z
    · exact hpw t a.length h2 h4 z (by rw [h3, h5])
    · exact ht z
    · exact hpw a.length t h4 h2 z (by rw [h3, h5])) _ (by omega)
  have h2 := ix_ge hq _ hlen
  omega
theorem ix_low (l : List Nat) (x : Nat) : ∀ j, -1 ≤ ixTo l x j ∧ ixTo l x j < (j : Int)
  | 0 => by unfold ixTo; omega
  | j + 1 => by
    unfold ixTo
    have := ix_low l x j
    split <;> omega
set_option maxRecDepth 100000 in
set_option maxHeartbeats 16000000 in
theorem walk (K : SpanC) (ms : List MZ) (A : Option Addr) (c : Nat) (i k : Int) (w : World) (hlen : ms.length ≤ maxLen) (hr : ChZ w w.heap.size A c ms) :
    Calls Try.prog 6 #[.slice A ms.length c, .int .i64 i, .int .i64 k] w fun r w' => r = .returned (.bool true) ∧ Below w.heap.size w w' := by
  have hlen2 : ms.length ≤ 9223372036854775807 := by unfold maxLen at hlen; omega
  have q9 : (ms.length : Int) ≤ 9223372036854775807 := by omega
  have HK := Lib.hid K
  have HR := Lib.hid hr
  have HL := Lib.hid (fun (W : World) => liveO_any K W)
  have HFw := Lib.hid (fun (W : World) (hW : Below w.heap.size w W) => fewZ_any ms A c W hlen2 (HR.out.below hW (Nat.le_refl _) hW.size))
  have HO := Lib.hid (fun (W : World) (hW : Below w.heap.size w W) (hf : ∀ x ∈ ms, fewMZ x) (hl : ms.length ≤ 1000) => dOrder_any K ms A c W (HR.out.below hW (Nat.le_refl _) hW.size) hf hl)
  have HFy := Lib.hid (fun (q : fewZ ms = true) => fewZ_yes q)
  clear hr K hlen
  have HLq := Lib.hid (fun (V : World) (hV : Below w.heap.size w V) => (HL.out V).mono fun r w' (q : r = .returned (.bool true) ∧ Below V.heap.size V w') => (⟨q.1, hV.trans (q.2.mono hV.size)⟩ : r = .returned (.bool true) ∧ Below w.heap.size w w'))
  have HFq := Lib.hid (fun (V : World) (hV : Below w.heap.size w V) => (HFw.out V hV).mono fun r w' (q : r = .returned (.bool (fewZ ms)) ∧ Below V.heap.size V w') => (⟨q.1, hV.trans (q.2.mono hV.size)⟩ : r = .returned (.bool (fewZ ms)) ∧ Below w.heap.size w w'))
  clear HFw HK
  generalize fewZ ms = fw at *
  go_enter Try.func6, Try.ntmps6
  go_upto_region 1 with fail
  cases fw with
  | false =>
    go_wp2_with fail
    refine wp_region_classJ (C := fun W => Below w.heap.size w W) (by kernel_rfl) (by kernel_rfl) ((Below.refl _ _).drew) ?_
    repeat (
      refine no_implicit_lambda% (wpQuiet_step ?_)
      intro K hK
      go_simp
      first
      | (refine no_implicit_lambda% (hK _ ?_); clear hK K)
      | (apply Exists.intro
         refine ⟨fun _ => ?_, hK _ ?_⟩
         (first
             | (intro hw; with_reducible exact HLq.out _ hw)
             | (intro hw; with_reducible exact HFq.out _ hw)
             | (intro _; with_reducible rfl)
             | (intro hw; go_simp; with_reducible exact ⟨rfl, rfl⟩)
             | (intro hw; go_simp; with_reducible exact rfl))
         clear hK K))
    refine wpQuiet_nil ?_
    intro w8 hb8
    have HC := Lib.hid (HL.out w8)
    have HB8 := Lib.hid hb8
    clear hb8
    go_wp2_with fail
    (with_reducible refine HC.out.mono ?_)
    rintro r w9 ⟨rfl, hb9⟩
    have HB9 := Lib.hid (HB8.out.trans (hb9.mono HB8.out.size))
    clear hb9
    go_wp2_with fail
    go_ret
    exact ⟨rfl, HB9.out⟩
  | true =>
    by_cases h0 : i < 0
    · have d00 : decide (i < 0) = true := by rw [decide_eq_true_iff]; omega
      clear h0
      go_wp2_with fail
      refine wp_region_classJ (C := fun W => Below w.heap.size w W) (by kernel_rfl) (by kernel_rfl) ((Below.refl _ _).drew) ?_
      repeat (
        refine no_implicit_lambda% (wpQuiet_step ?_)
        intro K hK
        go_simp
        first
        | (refine no_implicit_lambda% (hK _ ?_); clear hK K)
        | (apply Exists.intro
           refine ⟨fun _ => ?_, hK _ ?_⟩
           (first
               | (intro hw; with_reducible exact HLq.out _ hw)
               | (intro hw; with_reducible exact HFq.out _ hw)
               | (intro _; with_reducible rfl)
               | (intro hw; go_simp; with_reducible exact ⟨rfl, rfl⟩)
               | (intro hw; go_simp; with_reducible exact rfl))
           clear hK K))
      refine wpQuiet_nil ?_
      intro w8 hb8
      have HC := Lib.hid (HL.out w8)
      have HB8 := Lib.hid hb8
      clear hb8
      go_wp2_with fail
      (with_reducible refine HC.out.mono ?_)
      rintro r w9 ⟨rfl, hb9⟩
      have HB9 := Lib.hid (HB8.out.trans (hb9.mono HB8.out.size))
      clear hb9
      go_wp2_with fail
      go_ret
      exact ⟨rfl, HB9.out⟩
    · have d00 : decide (i < 0) = false := by rw [decide_eq_false_iff_not]; omega
      by_cases h1 : (ms.length : Int) ≤ i
      · have d10 : decide (i ≥ (ms.length : Int)) = true := by rw [decide_eq_true_iff]; omega
        have d11 : decide ((ms.length : Int) ≤ i) = true := by rw [decide_eq_true_iff]; omega
        clear h1
        go_wp2_with fail
        refine wp_region_classJ (C := fun W => Below w.heap.size w W) (by kernel_rfl) (by kernel_rfl) ((Below.refl _ _).drew) ?_
        repeat (
          refine no_implicit_lambda% (wpQuiet_step ?_)
          intro K hK
          go_simp
          first
          | (refine no_implicit_lambda% (hK _ ?_); clear hK K)
          | (apply Exists.intro
             refine ⟨fun _ => ?_, hK _ ?_⟩
             (first
                 | (intro hw; with_reducible exact HLq.out _ hw)
                 | (intro hw; with_reducible exact HFq.out _ hw)
                 | (intro _; with_reducible rfl)
                 | (intro hw; go_simp; with_reducible exact ⟨rfl, rfl⟩)
                 | (intro hw; go_simp; with_reducible exact rfl))
             clear hK K))
        refine wpQuiet_nil ?_
        intro w8 hb8
        have HC := Lib.hid (HL.out w8)
        have HB8 := Lib.hid hb8
        clear hb8
        go_wp2_with fail
        (with_reducible refine HC.out.mono ?_)
        rintro r w9 ⟨rfl, hb9⟩
        have HB9 := Lib.hid (HB8.out.trans (hb9.mono HB8.out.size))
        clear hb9
        go_wp2_with fail
        go_ret
        exact ⟨rfl, HB9.out⟩
      · have d10 : decide (i ≥ (ms.length : Int)) = false := by rw [decide_eq_false_iff_not]; omega
        have d11 : decide ((ms.length : Int) ≤ i) = false := by rw [decide_eq_false_iff_not]; omega
        by_cases h2 : k < 0
        · have d20 : decide (k < 0) = true := by rw [decide_eq_true_iff]; omega
          clear h2
          go_wp2_with fail
          refine wp_region_classJ (C := fun W => Below w.heap.size w W) (by kernel_rfl) (by kernel_rfl) ((Below.refl _ _).drew) ?_
          repeat (
            refine no_implicit_lambda% (wpQuiet_step ?_)
            intro K hK
            go_simp
            first
            | (refine no_implicit_lambda% (hK _ ?_); clear hK K)
            | (apply Exists.intro
               refine ⟨fun _ => ?_, hK _ ?_⟩
               (first
                   | (intro hw; with_reducible exact HLq.out _ hw)
                   | (intro hw; with_reducible exact HFq.out _ hw)
                   | (intro _; with_reducible rfl)
                   | (intro hw; go_simp; with_reducible exact ⟨rfl, rfl⟩)
                   | (intro hw; go_simp; with_reducible exact rfl))
               clear hK K))
          refine wpQuiet_nil ?_
          intro w8 hb8
          have HC := Lib.hid (HL.out w8)
          have HB8 := Lib.hid hb8
          clear hb8
          go_wp2_with fail
          (with_reducible refine HC.out.mono ?_)
          rintro r w9 ⟨rfl, hb9⟩
          have HB9 := Lib.hid (HB8.out.trans (hb9.mono HB8.out.size))
          clear hb9
          go_wp2_with fail
          go_ret
          exact ⟨rfl, HB9.out⟩
        · have d20 : decide (k < 0) = false := by rw [decide_eq_false_iff_not]; omega
          by_cases h3 : (ms.length : Int) ≤ k
          · have d30 : decide (k ≥ (ms.length : Int)) = true := by rw [decide_eq_true_iff]; omega
            have d31 : decide ((ms.length : Int) ≤ k) = true := by rw [decide_eq_true_iff]; omega
            clear h3
            go_wp2_with fail
            refine wp_region_classJ (C := fun W => Below w.heap.size w W) (by kernel_rfl) (by kernel_rfl) ((Below.refl _ _).drew) ?_
            repeat (
              refine no_implicit_lambda% (wpQuiet_step ?_)
              intro K hK
              go_simp
              first
              | (refine no_implicit_lambda% (hK _ ?_); clear hK K)
              | (apply Exists.intro
                 refine ⟨fun _ => ?_, hK _ ?_⟩
                 (first
                     | (intro hw; with_reducible exact HLq.out _ hw)
                     | (intro hw; with_reducible exact HFq.out _ hw)
                     | (intro _; with_reducible rfl)
                     | (intro hw; go_simp; with_reducible exact ⟨rfl, rfl⟩)
                     | (intro hw; go_simp; with_reducible exact rfl))
                 clear hK K))
            refine wpQuiet_nil ?_
            intro w8 hb8
            have HC := Lib.hid (HL.out w8)
            have HB8 := Lib.hid hb8
            clear hb8
            go_wp2_with fail
            (with_reducible refine HC.out.mono ?_)
            rintro r w9 ⟨rfl, hb9⟩
            have HB9 := Lib.hid (HB8.out.trans (hb9.mono HB8.out.size))
            clear hb9
            go_wp2_with fail
            go_ret
            exact ⟨rfl, HB9.out⟩
          · have d30 : decide (k ≥ (ms.length : Int)) = false := by rw [decide_eq_false_iff_not]; omega
            have d31 : decide ((ms.length : Int) ≤ k) = false := by rw [decide_eq_false_iff_not]; omega
            obtain ⟨a, rfl⟩ : ∃ a : Nat, i = (a : Int) := ⟨i.toNat, by omega⟩
            obtain ⟨b, rfl⟩ : ∃ b : Nat, k = (b : Int) := ⟨k.toNat, by omega⟩
            have ha : a < ms.length := by omega
            have hb : b < ms.length := by omega
            have d4 : decide (ms.length ≤ a) = false := by rw [decide_eq_false_iff_not]; omega
            have d5 : decide (ms.length ≤ b) = false := by rw [decide_eq_false_iff_not]; omega
            have d6 : decide ((a : Int) < 0) = false := by simp
            have d7 : decide ((b : Int) < 0) = false := by simp
            have q1 : (a : Int) < (ms.length : Int) := by omega
            have q2 : (b : Int) < (ms.length : Int) := by omega
            clear h0 h1 h2 h3 d00 d20
            obtain ⟨bb, oo, rfl, hbl, hs1, hs2⟩ := HR.out.elem2 ha hb
            have HPc := Lib.hid (fun (V : World) (hV : Below w.heap.size w V) => And.intro ((hs1.below hV hbl).all) ((hs2.below hV hbl).all))
            have HAh := Lib.hid (fun (res : List Nat) (q : orderL (dz ms) = some res) (hab : a ≠ b) (he : (ms[a]'ha).d.end_ < (ms[b]'hb).d.start) => time_ahead (order_right q) (by rw [dz_len]; exact ha) (by rw [dz_len]; exact hb) hab (by rw [dz_at ha, dz_at hb]; exact he))
            clear hs1 hs2 hbl
            generalize ms[a]'ha = x at *
            generalize ms[b]'hb = y at *
            clear ha hb
            obtain ⟨⟨xi, xb, xa, xs, xe, xr, xw⟩, xA, xc, xB, xd⟩ := x
            obtain ⟨⟨yi, yb, ya, ys, ye, yr, yw⟩, yA, yc, yB, yd⟩ := y
            simp only at HPc HAh
            by_cases h4 : ys ≤ xe
            · have e1 : decide (xe ≥ ys) = true := by rw [decide_eq_true_iff]; omega
              have e2 : decide (ys ≤ xe) = true := by rw [decide_eq_true_iff]; omega
              clear h4
              go_wp2_with fail
              refine wp_region_classJ (C := fun W => Below w.heap.size w W) (by kernel_rfl) (by kernel_rfl) ((Below.refl _ _).drew) ?_
              repeat (
                refine no_implicit_lambda% (wpQuiet_step ?_)
                intro K hK
                go_simp
                first
                | (refine no_implicit_lambda% (hK _ ?_); clear hK K)
                | (apply Exists.intro
                   refine ⟨fun _ => ?_, hK _ ?_⟩
                   (first
                       | (intro hw; with_reducible exact HLq.out _ hw)
                       | (intro hw; with_reducible exact HFq.out _ hw)
                       | (intro hw; obtain ⟨⟨z0, z1, z2, z3, z4, z5, z6⟩, ⟨y0, y1, y2, y3, y4, y5, y6⟩⟩ := HPc.out _ hw; go_simp; with_reducible exact ⟨rfl, rfl⟩)
                       | (intro hw; obtain ⟨⟨z0, z1, z2, z3, z4, z5, z6⟩, ⟨y0, y1, y2, y3, y4, y5, y6⟩⟩ := HPc.out _ hw; go_simp; with_reducible rfl)
                       | (intro _; with_reducible rfl)
                       | (intro hw; go_simp; with_reducible exact ⟨rfl, rfl⟩)
                       | (intro hw; go_simp; with_reducible exact rfl))
                   clear hK K))
              refine wpQuiet_nil ?_
              intro w8 hb8
              have HC := Lib.hid (HL.out w8)
              have HB8 := Lib.hid hb8
              clear hb8
              go_wp2_with fail
              (with_reducible refine HC.out.mono ?_)
              rintro r w9 ⟨rfl, hb9⟩
              have HB9 := Lib.hid (HB8.out.trans (hb9.mono HB8.out.size))
              clear hb9
              go_wp2_with fail
              go_ret
              exact ⟨rfl, HB9.out⟩
            · have e1 : decide (xe ≥ ys) = false := by rw [decide_eq_false_iff_not]; omega
              have e2 : decide (ys ≤ xe) = false := by rw [decide_eq_false_iff_not]; omega
              by_cases h5 : a = b
              · have e3 : ((a : Int) == (b : Int)) = true := by rw [beq_iff_eq]; omega
                clear h4 h5
                go_wp2_with fail
                refine wp_region_classJ (C := fun W => Below w.heap.size w W) (by kernel_rfl) (by kernel_rfl) ((Below.refl _ _).drew) ?_
                repeat (
                  refine no_implicit_lambda% (wpQuiet_step ?_)
                  intro K hK
                  go_simp
                  first
                  | (refine no_implicit_lambda% (hK _ ?_); clear hK K)
                  | (apply Exists.intro
                     refine ⟨fun _ => ?_, hK _ ?_⟩
                     (first
                         | (intro hw; with_reducible exact HLq.out _ hw)
                         | (intro hw; with_reducible exact HFq.out _ hw)
                         | (intro hw; obtain ⟨⟨z0, z1, z2, z3, z4, z5, z6⟩, ⟨y0, y1, y2, y3, y4, y5, y6⟩⟩ := HPc.out _ hw; go_simp; with_reducible exact ⟨rfl, rfl⟩)
                         | (intro hw; obtain ⟨⟨z0, z1, z2, z3, z4, z5, z6⟩, ⟨y0, y1, y2, y3, y4, y5, y6⟩⟩ := HPc.out _ hw; go_simp; with_reducible rfl)
                         | (intro _; with_reducible rfl)
                         | (intro hw; go_simp; with_reducible exact ⟨rfl, rfl⟩)
                         | (intro hw; go_simp; with_reducible exact rfl))
                     clear hK K))
                refine wpQuiet_nil ?_
                intro w8 hb8
                have HC := Lib.hid (HL.out w8)
                have HB8 := Lib.hid hb8
                clear hb8
                go_wp2_with fail
                (with_reducible refine HC.out.mono ?_)
                rintro r w9 ⟨rfl, hb9⟩
                have HB9 := Lib.hid (HB8.out.trans (hb9.mono HB8.out.size))
                clear hb9
                go_wp2_with fail
                go_ret
                exact ⟨rfl, HB9.out⟩
              · have e3 : ((a : Int) == (b : Int)) = false := by rw [beq_eq_false_iff_ne]; omega
                have HAh2 := Lib.hid (fun res q => HAh.out res q h5 (by omega))
                clear h4 h5 HAh
                go_wp2_with fail
                refine wp_region_classJ (C := fun W => Below w.heap.size w W) (by kernel_rfl) (by kernel_rfl) ((Below.refl _ _).drew) ?_
                repeat (
                  refine no_implicit_lambda% (wpQuiet_step ?_)
                  intro K hK
                  go_simp
                  first
                  | (refine no_implicit_lambda% (hK _ ?_); clear hK K)
                  | (apply Exists.intro
                     refine ⟨fun _ => ?_, hK _ ?_⟩
                     (first
                         | (intro hw; with_reducible exact HLq.out _ hw)
                         | (intro hw; with_reducible exact HFq.out _ hw)
                         | (intro hw; obtain ⟨⟨z0, z1, z2, z3, z4, z5, z6⟩, ⟨y0, y1, y2, y3, y4, y5, y6⟩⟩ := HPc.out _ hw; go_simp; with_reducible exact ⟨rfl, rfl⟩)
                         | (intro hw; obtain ⟨⟨z0, z1, z2, z3, z4, z5, z6⟩, ⟨y0, y1, y2, y3, y4, y5, y6⟩⟩ := HPc.out _ hw; go_simp; with_reducible rfl)
                         | (intro _; with_reducible rfl)
                         | (intro hw; go_simp; with_reducible exact ⟨rfl, rfl⟩)
                         | (intro hw; go_simp; with_reducible exact rfl))
                     clear hK K))
                refine wpQuiet_nil ?_
                intro w8 hb8
                have HB2 := Lib.hid hb8
                obtain ⟨hf, hl⟩ := HFy.out (by first | rfl | trivial)
                have HC1 := Lib.hid (HO.out w8 hb8 hf (by omega))
                clear hf hl HO hb8
                cases hol : orderL (dz ms) with
                | none =>
                  rw [hol] at HC1
                  clear hol
                  go_wp2_with fail
                  (with_reducible refine HC1.out.mono ?_)
                  rintro r w3 h3
                  obtain ⟨rfl, hb3⟩ := h3.none_
                  have HB3 := Lib.hid (HB2.out.trans (hb3.mono HB2.out.size))
                  clear hb3 h3
                  go_wp2_with fail
                  go_ret
                  exact ⟨rfl, HB3.out⟩
                | some l =>
                  have HRes := Lib.hid (HAh2.out l hol)
                  rw [hol] at HC1
                  clear hol HAh2
                  go_wp2_with fail
                  (with_reducible refine HC1.out.mono ?_)
                  rintro r w3 h3
                  obtain ⟨A3, c3, rfl, k1, k2, k3, k4, hb3⟩ := h3.some_
                  have HB3 := Lib.hid (HB2.out.trans (hb3.mono HB2.out.size))
                  have HR3 := Lib.hid k4
                  have q11 : (l.length : Int) ≤ 9223372036854775807 := by unfold maxLen at k2; omega
                  clear hb3 h3 k1 k2 k3 k4
                  go_wp2_with fail
                  go_loopg [9, 10, 68] l.length (fun q v1 v2 iv wr => ∃ j : Nat, j + q = l.length ∧ iv = .int .i64 (j : Nat) ∧ v1 = .int .i64 (ixTo l a j) ∧ v2 = .int .i64 (ixTo l b j) ∧ Below w3.heap.size w3 wr)
                  case atStart => exact ⟨0, by omega, rfl, rfl, rfl, Below.refl _ _⟩
                  case round =>
                    obtain ⟨j, hj, rfl, rfl, rfl, hb9⟩ := hrel
                    have HJ := Lib.hid hj
                    have HB9 := Lib.hid hb9
                    clear hj hb9
                    by_cases hjn : j < l.length
                    · have f1 : decide ((j : Int) < (l.length : Int)) = true := by simpa using hjn
                      have f2 : decide (j < l.length) = true := by simpa using hjn
                      have q12 : (j : Int) < (l.length : Int) := by omega
                      obtain ⟨b2, o2, rfl, _, _, hc⟩ := (HR3.out.below HB9.out (Nat.le_refl _)).at_ inZF (j := j) (by rw [outZ_len]; exact hjn)
                      have c0 := hc 0 (.int .i64 ((l[j]'hjn : Nat) : Int)) (by simp [outZ, inZ])
                      simp only [Nat.add_zero, Nat.mul_one] at c0
                      have HN1 := Lib.hid (show ixTo l a (j + 1) = if l[j]'hjn = a then (j : Int) else ixTo l a j by
                        conv => lhs; unfold ixTo
                        rw [List.getElem?_eq_getElem hjn]
                        simp)
                      have HN2 := Lib.hid (show ixTo l b (j + 1) = if l[j]'hjn = b then (j : Int) else ixTo l b j by
                        conv => lhs; unfold ixTo
                        rw [List.getElem?_eq_getElem hjn]
                        simp)
                      clear hc
                      generalize l[j]'hjn = p at *
                      clear hjn
                      generalize ixTo l a j = u1 at *
                      generalize ixTo l b j = u2 at *
                      by_cases p1 : p = a
                      · have g1 : ((p : Int) == (a : Int)) = true := by rw [beq_iff_eq]; omega
                        have HM1 := Lib.hid (show ixTo l a (j + 1) = (j : Int) by rw [HN1.out, if_pos p1])
                        by_cases p2 : p = b
                        · have g2 : ((p : Int) == (b : Int)) = true := by rw [beq_iff_eq]; omega
                          have HM2 := Lib.hid (show ixTo l b (j + 1) = (j : Int) by rw [HN2.out, if_pos p2])
                          clear p1 p2
                          go_wp2_with fail
                          go_roundg (gk - 1)
                          case measure => have := HJ.out; omega
                          case rel => exact ⟨j + 1, by have := HJ.out; omega, by go_num, by rw [HM1.out], by rw [HM2.out], HB9.out⟩
                        · have g2 : ((p : Int) == (b : Int)) = false := by rw [beq_eq_false_iff_ne]; omega
                          have HM2 := Lib.hid (show ixTo l b (j + 1) = u2 by rw [HN2.out, if_neg p2])
                          clear p1 p2
                          go_wp2_with fail
                          go_roundg (gk - 1)
                          case measure => have := HJ.out; omega
                          case rel => exact ⟨j + 1, by have := HJ.out; omega, by go_num, by rw [HM1.out], by rw [HM2.out], HB9.out⟩
                      · have g1 : ((p : Int) == (a : Int)) = false := by rw [beq_eq_false_iff_ne]; omega
                        have HM1 := Lib.hid (show ixTo l a (j + 1) = u1 by rw [HN1.out, if_neg p1])
                        by_cases p2 : p = b
                        · have g2 : ((p : Int) == (b : Int)) = true := by rw [beq_iff_eq]; omega
                          have HM2 := Lib.hid (show ixTo l b (j + 1) = (j : Int) by rw [HN2.out, if_pos p2])
                          clear p1 p2
                          go_wp2_with fail
                          go_roundg (gk - 1)
                          case measure => have := HJ.out; omega
                          case rel => exact ⟨j + 1, by have := HJ.out; omega, by go_num, by rw [HM1.out], by rw [HM2.out], HB9.out⟩
                        · have g2 : ((p : Int) == (b : Int)) = false := by rw [beq_eq_false_iff_ne]; omega
                          have HM2 := Lib.hid (show ixTo l b (j + 1) = u2 by rw [HN2.out, if_neg p2])
                          clear p1 p2
                          go_wp2_with fail
                          go_roundg (gk - 1)
                          case measure => have := HJ.out; omega
                          case rel => exact ⟨j + 1, by have := HJ.out; omega, by go_num, by rw [HM1.out], by rw [HM2.out], HB9.out⟩
                    · have f1 : decide ((j : Int) < (l.length : Int)) = false := by simpa using hjn
                      have f2 : decide (j < l.length) = false := by simpa using hjn
                      obtain rfl : j = l.length := by have := HJ.out; omega
                      have r1 := HRes.out
                      generalize ixTo l a l.length = u1 at *
                      generalize ixTo l b l.length = u2 at *
                      have g1 : decide (u1 ≥ 0) = true := by rw [decide_eq_true_iff]; omega
                      have g2 : decide (0 ≤ u1) = true := by rw [decide_eq_true_iff]; omega
                      have g3 : decide (u1 < u2) = true := by rw [decide_eq_true_iff]; omega
                      have HBe := Lib.hid (HB3.out.trans (HB9.out.mono HB3.out.size))
                      clear hjn
                      go_wp2_with fail
                      go_ret
                      exact ⟨rfl, HBe.out⟩
end Go.Proofs.Ytfdiidhilonkoaa.orderTime
