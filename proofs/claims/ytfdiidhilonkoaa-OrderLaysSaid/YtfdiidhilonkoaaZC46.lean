import Derived.Test.YtfdiidhilonkoaaZC45
import Derived.Test.YtfdiidhilonkoaaZC19
import Derived.Lib.SmallJoins
import Derived.Deep.Slices
import Derived.Deep.Fields
import Derived.ChangeSame
import Derived.OpenShut
import Derived.ChangeOld
import Derived.Test.YtfdiidhilonkoaaZC21
import Derived.Test.YtfdiidhilonkoaaZC38
set_option linter.unusedVariables false
/-
  Package span, as it landed, answers as the contracts say.
-/
namespace Go.Proofs.Ytfdiidhilonkoaa
open Go.RowKit

theorem spanC : SpanC where
  right := dRight_anyI
  meets := dMeets_any
  normal := fun l A c w hl h => dNormal_any l A c w (by unfold okI at hl; omega) h.2.2.2
  meet := dMeet_any
end Go.Proofs.Ytfdiidhilonkoaa

/-
  Arguments of the statements on stretches, opened: slices of stretches, stretches, texts, ints.
-/
namespace Go.Proofs.Ytfdiidhilonkoaa
open Go.Joins Go.ChangeShapes Go.WideShapes Go.ChangeAt Go.RowKit Go.Deep

theorem laidOutI : laidOutB Try.prog = true := by kernel_rfl
theorem cellsSpanI : Try.prog.cellsOf 52 = 2 := by kernel_rfl
theorem cellsStrI : Try.prog.cellsOf 9 = 1 := by kernel_rfl
section
variable {H : Type} {enc : TypeId × Value → H} {W : World}
theorem span_cells {fuel : Nat} {cs : List Value} {y : DataW H × List MemPlace} (hlen0 : cs.length = 2) (h : DataW.trod enc Try.prog W 0 (fun _ => true) true fuel 52 cs = some y) : ∃ x : Sp, cs = spCells x ∧ True := by
  match cs, hlen0 with
  | [c0, c1], _ =>
    obtain ⟨xs, n, _, hx, _, hlen, hg⟩ := DataW.trod_struct Try.underlying52 h
    have g0 := hg 0 _ rfl
    have g1 := hg 1 _ rfl
    match xs, hlen with
    | [y0, y1], _ =>
      simp [cellsStrI] at g0 g1
      obtain ⟨s0, e0, _, h0⟩ := DataW.trod_string Try.underlying9 g0
      obtain ⟨s1, e1, _, h1⟩ := DataW.trod_string Try.underlying9 g1
      simp at e0 e1
      exact ⟨⟨s0.data.toList, s1.data.toList⟩, by rw [e0, e1]; simp only [spCells]; rw [← bs_of, ← bs_of], trivial⟩
set_option maxRecDepth 100000 in
theorem span_in {r : Reach} {b0 : Nat} {v : Value} {d : DataW H} {p : List MemPlace} (hv : Value.okWide Try.prog W r b0 52 v) (h : DataW.Trod enc Try.prog W 0 (fun _ => true) true 52 v d p) :
    ∃ x : Sp, v = spVal x := by
  obtain ⟨cs, rfl, hsz⟩ := okWide_struct Try.underlying52 hv
  obtain ⟨l⟩ := cs
  obtain ⟨fuel, hf⟩ := h
  obtain ⟨x, e, _⟩ := span_cells (by simpa using hsz.trans cellsSpanI) (by simpa [Value.cells] using hf)
  subst e
  exact ⟨x, rfl⟩
theorem spans_in {fuel : Nat} {v : Value} {y : DataW H × List MemPlace} (h : DataW.trod enc Try.prog W 0 (fun _ => true) true fuel 27 [v] = some y) :
    ∃ (A : Option Addr) (c : Nat) (l : List Sp), v = .slice A l.length c ∧ ChI W W.heap.size A c l := by
  obtain ⟨A, c, l, e, _, _, h3, h4, h5, h6⟩ := rowsG_in spF Try.underlying27 cellsSpanI (p := fun _ => True) (fun _ _ _ hl ht => span_cells hl ht) h
  exact ⟨A, c, l, e, h3, h4, h5, h6⟩
theorem i64_inI {a : Int} (h : (Lit.int .i64 a).wf = true) : -9223372036854775808 ≤ a ∧ a ≤ 9223372036854775807 := by
  simp [Lit.wf, IntKind.min, IntKind.max, IntKind.bits, IntKind.signed] at h
  exact ⟨by omega, by omega⟩
end
end Go.Proofs.Ytfdiidhilonkoaa

/-
  Arguments of the statements on orders, opened: slices of those that committed, slices of ints.
-/
namespace Go.Proofs.Ytfdiidhilonkoaa
open Go.Joins Go.ChangeShapes Go.WideShapes Go.ChangeAt Go.RowKit Go.Deep

theorem cellsDoneO : Try.prog.cellsOf 29 = 7 := by kernel_rfl
theorem cellsU64O : Try.prog.cellsOf 26 = 1 := by kernel_rfl
theorem cellsIntO : Try.prog.cellsOf 3 = 1 := by kernel_rfl
theorem cellsSpansO : Try.prog.cellsOf 27 = 1 := by kernel_rfl
theorem u64_natO {z : Int} (h : (Lit.int .u64 z).wf = true) : ∃ n : Nat, z = (n : Int) ∧ n < 18446744073709551616 := by
  simp [Lit.wf, IntKind.min, IntKind.max, IntKind.bits, IntKind.signed] at h
  exact ⟨z.toNat, by omega, by omega⟩
section
variable {H : Type} {enc : TypeId × Value → H} {W : World}
theorem spans_cellO {fuel : Nat} {cs : List Value} {y : DataW H × List MemPlace} (hlen0 : cs.length = 1) (h : DataW.trod enc Try.prog W 0 (fun _ => true) true fuel 27 cs = some y) :
    ∃ (A : Option Addr) (c : Nat) (l : List Sp), cs = [.slice A l.length c] ∧ ChI W W.heap.size A c l := by
  match cs, hlen0 with
  | [v], _ =>
    obtain ⟨A, c, l, e, h1⟩ := spans_in h
    exact ⟨A, c, l, by rw [e], h1⟩
theorem done_cells {fuel : Nat} {cs : List Value} {y : DataW H × List MemPlace} (hlen0 : cs.length = 7) (h : DataW.trod enc Try.prog W 0 (fun _ => true) true fuel 29 cs = some y) : ∃ x : MZ, cs = mzCells x ∧ OkMZ W W.heap.size x := by
  match cs, hlen0 with
  | [c0, c1, c2, c3, c4, c5, c6], _ =>
    obtain ⟨xs, n, _, hx, _, hlen, hg⟩ := DataW.trod_struct Try.underlying29 h
    have g0 := hg 0 _ rfl
    have g1 := hg 1 _ rfl
    have g2 := hg 2 _ rfl
    have g3 := hg 3 _ rfl
    have g4 := hg 4 _ rfl
    have g5 := hg 5 _ rfl
    have g6 := hg 6 _ rfl
    match xs, hlen with
    | [y0, y1, y2, y3, y4, y5, y6], _ =>
      simp [cellsU64O, cellsSpansO, cellsIntO] at g0 g1 g2 g3 g4 g5 g6
      obtain ⟨k0, e0, _, h0⟩ := DataW.trod_int Try.underlying3 g0
      obtain ⟨k1, e1, _, h1⟩ := DataW.trod_int Try.underlying26 g1
      obtain ⟨k2, e2, _, h2⟩ := DataW.trod_int Try.underlying26 g2
      obtain ⟨k3, e3, _, h3⟩ := DataW.trod_int Try.underlying3 g3
      obtain ⟨k4, e4, _, h4⟩ := DataW.trod_int Try.underlying3 g4
      obtain ⟨A, c, l, e5, h5⟩ := spans_cellO rfl g5
      obtain ⟨B, d, m, e6, h6⟩ := spans_cellO rfl g6
      obtain ⟨m1, rfl, w1⟩ := u64_natO h1
      obtain ⟨m2, rfl, w2⟩ := u64_natO h2
      simp at e0 e1 e2 e3 e4 e5 e6
      exact ⟨⟨⟨k0, m1, m2, k3, k4, l, m⟩, A, c, B, d⟩, by rw [e0, e1, e2, e3, e4, e5, e6]; rfl, h5, h6⟩
theorem dones_in {fuel : Nat} {v : Value} {y : DataW H × List MemPlace} (h : DataW.trod enc Try.prog W 0 (fun _ => true) true fuel 22 [v] = some y) :
    ∃ (A : Option Addr) (c : Nat) (l : List MZ), v = .slice A l.length c ∧ l.length ≤ maxLen ∧ ChZ W W.heap.size A c l := by
  obtain ⟨A, c, ms, e, h1, h2, h3, h4, h5, h6⟩ := rowsG_in mzF Try.underlying22 cellsDoneO (p := fun x => OkMZ W W.heap.size x) (fun _ _ _ hl ht => done_cells hl ht) h
  exact ⟨A, c, ms, e, h1, h3, h4, h5, h6, h2⟩
theorem int_cellsO {fuel : Nat} {cs : List Value} {y : DataW H × List MemPlace} (hlen0 : cs.length = 1) (h : DataW.trod enc Try.prog W 0 (fun _ => true) true fuel 3 cs = some y) : ∃ x : Int, cs = inZ x ∧ True := by
  match cs, hlen0 with
  | [c0], _ =>
    obtain ⟨k0, e0, _, h0⟩ := DataW.trod_int Try.underlying3 h
    simp at e0
    exact ⟨k0, by rw [e0]; rfl, trivial⟩
theorem ints_inO {fuel : Nat} {v : Value} {y : DataW H × List MemPlace} (h : DataW.trod enc Try.prog W 0 (fun _ => true) true fuel 23 [v] = some y) :
    ∃ (A : Option Addr) (c : Nat) (l : List Int), v = .slice A l.length c ∧ l.length ≤ maxLen ∧ l.length ≤ c ∧ c ≤ maxLen ∧ (A = none → c = 0) ∧ RowG inZ W 0 W.heap.size A l := by
  obtain ⟨A, c, ms, e, h1, h2, h3, h4, h5, h6⟩ := rowsG_in inZF Try.underlying23 cellsIntO (p := fun _ => True) (fun _ _ _ hl ht => int_cellsO hl ht) h
  exact ⟨A, c, ms, e, h1, h3, h4, h5, h6⟩
end
end Go.Proofs.Ytfdiidhilonkoaa

/-
  The walk of OrderLays.
-/
namespace Go.Proofs.Ytfdiidhilonkoaa.orderLays
open Go.RowKit

set_option maxRecDepth 100000 in
set_option maxHeartbeats 16000000 in
theorem walk (K : SpanC) (ms : List MZ) (A : Option Addr) (c : Nat) (w : World) (hlen : ms.length ≤ maxLen) (hr : ChZ w w.heap.size A c ms) :
    Calls Try.prog 4 #[.slice A ms.length c] w fun r w' => r = .returned (.bool true) ∧ Below w.heap.size w w' := by
  have hlen2 : ms.length ≤ 9223372036854775807 := by unfold maxLen at hlen; omega
  have q9 : (ms.length : Int) ≤ 9223372036854775807 := by omega
  have HK := Lib.hid K
  have HR := Lib.hid hr
  have HL := Lib.hid (fun (W : World) => liveO_any K W)
  have HFw := Lib.hid (fun (W : World) (hW : Below w.heap.size w W) => fewZ_any ms A c W hlen2 (HR.out.below hW (Nat.le_refl _) hW.size))
  have HO := Lib.hid (fun (W : World) (hW : Below w.heap.size w W) (hf : ∀ x ∈ ms, fewMZ x) (hl : ms.length ≤ 1000) => dOrder_any K ms A c W (HR.out.below hW (Nat.le_refl _) hW.size) hf hl)
  have HFy := Lib.hid (fun (q : fewZ ms = true) => fewZ_yes q)
  clear hr K hlen
  have HO2 := Lib.hid (fun (W : World) (hW : Below w.heap.size w W) (hf : ∀ x ∈ ms, fewMZ x) (hl : ms.length ≤ 1000) => refOrder_any ms A c W (HR.out.below hW (Nat.le_refl _) hW.size) hf hl)
  clear HK
  generalize fewZ ms = fw at *
  go_enter Try.func4, Try.ntmps4
  go_wp2_with fail
  (with_reducible refine (HL.out w).mono ?_)
  rintro r w1 ⟨rfl, hb1⟩
  have HB1 := Lib.hid hb1
  have HC := Lib.hid (HFw.out w1 hb1)
  clear hb1
  go_wp2_with fail
  (with_reducible refine HC.out.mono ?_)
  rintro r w2 ⟨rfl, hb2⟩
  have HB2 := Lib.hid (HB1.out.trans (hb2.mono HB1.out.size))
  clear hb2 HC
  cases fw with
  | false =>
    go_wp2_with fail
    (with_reducible refine (HL.out w2).mono ?_)
    rintro r w3 ⟨rfl, hb3⟩
    have HB3 := Lib.hid (HB2.out.trans (hb3.mono HB2.out.size))
    clear hb3
    go_wp2_with fail
    go_ret
    exact ⟨rfl, HB3.out⟩
  | true =>
    obtain ⟨hf, hl⟩ := HFy.out rfl
    have HC1 := Lib.hid (HO.out w2 HB2.out hf (by omega))
    have HC2 := Lib.hid (fun W hW => HO2.out W hW hf (by omega))
    clear hf hl HO HO2
    generalize orderL (dz ms) = ol at *
    cases ol with
    | none =>
      go_wp2_with fail
      (with_reducible refine HC1.out.mono ?_)
      rintro r w3 h3
      obtain ⟨rfl, hb3⟩ := h3.none_
      have HB3 := Lib.hid (HB2.out.trans (hb3.mono HB2.out.size))
      have HC3 := Lib.hid (HC2.out w3 HB3.out)
      clear hb3 h3
      go_wp2_with fail
      (with_reducible refine HC3.out.mono ?_)
      rintro r w4 h4
      obtain ⟨rfl, hb4⟩ := h4.none_
      have HB4 := Lib.hid (HB3.out.trans (hb4.mono HB3.out.size))
      have hS : Calls Try.prog 15 #[.slice none 0 0, .slice none 0 0] w4 fun r w' => r = .returned (.bool true) ∧ Below w4.heap.size w4 w' := sameInts_any [] [] none none 0 0 w4 (by simp) (by simp) RowG.nil_ RowG.nil_
      have HS := Lib.hid hS
      clear hb4 h4 hS
      go_wp2_with fail
      (with_reducible refine HS.out.mono ?_)
      rintro r w5 ⟨rfl, hb5⟩
      have HB5 := Lib.hid (HB4.out.trans (hb5.mono HB4.out.size))
      clear hb5
      go_wp2_with fail
      go_ret
      exact ⟨rfl, HB5.out⟩
    | some l =>
      go_wp2_with fail
      (with_reducible refine HC1.out.mono ?_)
      rintro r w3 h3
      obtain ⟨A3, c3, rfl, k1, k2, k3, k4, hb3⟩ := h3.some_
      have HB3 := Lib.hid (HB2.out.trans (hb3.mono HB2.out.size))
      have HC3 := Lib.hid (HC2.out w3 HB3.out)
      have HR3 := Lib.hid k4
      have HLn := Lib.hid (show l.length ≤ 9223372036854775807 by unfold maxLen at k2; omega)
      clear hb3 h3 k1 k2 k3 k4
      go_wp2_with fail
      (with_reducible refine HC3.out.mono ?_)
      rintro r w4 h4
      obtain ⟨A4, c4, rfl, k1, k2, k3, k4, hb4⟩ := h4.some_
      have HB4 := Lib.hid (HB3.out.trans (hb4.mono HB3.out.size))
      have hS := sameInts_any (outZ l) (outZ l) A3 A4 c3 c4 w4 (by rw [outZ_len]; exact HLn.out) (by rw [outZ_len]; exact HLn.out) ((HR3.out.below hb4 (Nat.le_refl _)).wide (Nat.le_refl _) hb4.size) k4
      rw [outZ_len, show decide (outZ l = outZ l) = true from decide_eq_true rfl] at hS
      have HS := Lib.hid hS
      clear hb4 h4 k1 k2 k3 k4 hS
      go_wp2_with fail
      (with_reducible refine HS.out.mono ?_)
      rintro r w5 ⟨rfl, hb5⟩
      have HB5 := Lib.hid (HB4.out.trans (hb5.mono HB4.out.size))
      clear hb5
      go_wp2_with fail
      go_ret
      exact ⟨rfl, HB5.out⟩
end Go.Proofs.Ytfdiidhilonkoaa.orderLays
