import Derived.Test.YtjkmodfbbiojmaaZC30
import Derived.Test.YtjkmodfbbiojmaaZC32
import Derived.Test.YtjkmodfbbiojmaaZC35
import Derived.Test.YtjkmodfbbiojmaaZC37
import Derived.Test.YtjkmodfbbiojmaaZC40
import Derived.Test.YtjkmodfbbiojmaaZC07
import Derived.Lib.SmallJoins
import Derived.Deep.Slices
import Derived.Deep.Fields
import Derived.ChangeSame
import Derived.OpenShut
import Derived.ChangeOld
import Derived.Test.YtjkmodfbbiojmaaZC13
/-
  Package ssi, as it landed, answers as the contracts say.
-/
namespace Go.Proofs.Ytjkmodfbbiojmaa
open Go.RowKit

theorem ssiC : SsiC where
  right := dRightM_any spanC
  judge := dJudgeM_any spanC
  join := dJoinM_any spanC
  forget := dForgetM_any
  fit := dFitM_any spanC
  same := dSameM_any spanC
end Go.Proofs.Ytjkmodfbbiojmaa

/-
  Arguments of the statements on stretches, opened: slices of stretches, stretches, texts, ints.
-/
namespace Go.Proofs.Ytjkmodfbbiojmaa
open Go.Joins Go.ChangeShapes Go.WideShapes Go.ChangeAt Go.RowKit Go.Deep

theorem laidOutI : laidOutB Try.prog = true := by kernel_rfl
theorem cellsSpanI : Try.prog.cellsOf 58 = 2 := by kernel_rfl
theorem cellsStrI : Try.prog.cellsOf 9 = 1 := by kernel_rfl
section
variable {H : Type} {enc : TypeId × Value → H} {W : World}
theorem span_cells {fuel : Nat} {cs : List Value} {y : DataW H × List MemPlace} (hlen0 : cs.length = 2) (h : DataW.trod enc Try.prog W 0 (fun _ => true) true fuel 58 cs = some y) : ∃ x : Sp, cs = spCells x ∧ True := by
  match cs, hlen0 with
  | [c0, c1], _ =>
    obtain ⟨xs, n, _, hx, _, hlen, hg⟩ := DataW.trod_struct Try.underlying58 h
    have g0 := hg 0 _ rfl
    have g1 := hg 1 _ rfl
    match xs, hlen with
    | [y0, y1], _ =>
      simp [cellsStrI] at g0 g1
      obtain ⟨s0, e0, _, h0⟩ := DataW.trod_string Try.underlying9 g0
      obtain ⟨s1, e1, _, h1⟩ := DataW.trod_string Try.underlying9 g1
      simp at e0 e1
      exact ⟨⟨s0.data.toList, s1.data.toList⟩, by rw [e0, e1]; simp only [spCells]; rw [← bs_of, ← bs_of], trivial⟩
set_option maxRecDepth 100000 in
theorem span_in {r : Reach} {b0 : Nat} {v : Value} {d : DataW H} {p : List MemPlace} (hv : Value.okWide Try.prog W r b0 58 v) (h : DataW.Trod enc Try.prog W 0 (fun _ => true) true 58 v d p) :
    ∃ x : Sp, v = spVal x := by
  obtain ⟨cs, rfl, hsz⟩ := okWide_struct Try.underlying58 hv
  obtain ⟨l⟩ := cs
  obtain ⟨fuel, hf⟩ := h
  obtain ⟨x, e, _⟩ := span_cells (by simpa using hsz.trans cellsSpanI) (by simpa [Value.cells] using hf)
  subst e
  exact ⟨x, rfl⟩
theorem spans_in {fuel : Nat} {v : Value} {y : DataW H × List MemPlace} (h : DataW.trod enc Try.prog W 0 (fun _ => true) true fuel 27 [v] = some y) :
    ∃ (A : Option Addr) (c : Nat) (l : List Sp), v = .slice A l.length c ∧ ChI W W.heap.size A c l := by
  obtain ⟨A, c, l, e, _, _, h3, h4, h5, h6⟩ := rowsG_in spF Try.underlying27 cellsSpanI (p := fun _ => True) (fun _ _ _ hl ht => span_cells hl ht) h
  exact ⟨A, c, l, e, h3, h4, h5, h6⟩
theorem i64_inI {a : Int} (h : (Lit.int .i64 a).wf = true) : -9223372036854775808 ≤ a ∧ a ≤ 9223372036854775807 := by
  simp [Lit.wf, IntKind.min, IntKind.max, IntKind.bits, IntKind.signed] at h
  exact ⟨by omega, by omega⟩
end
end Go.Proofs.Ytjkmodfbbiojmaa

/-
  Arguments of the statements on records, opened: slices of records, records.
-/
namespace Go.Proofs.Ytjkmodfbbiojmaa
open Go.Joins Go.ChangeShapes Go.WideShapes Go.ChangeAt Go.RowKit Go.Deep

theorem cellsRecM : Try.prog.cellsOf 29 = 6 := by kernel_rfl
theorem cellsU64M : Try.prog.cellsOf 23 = 1 := by kernel_rfl
theorem cellsSpansM : Try.prog.cellsOf 27 = 1 := by kernel_rfl
theorem u64_natM {z : Int} (h : (Lit.int .u64 z).wf = true) : ∃ n : Nat, z = (n : Int) ∧ n < 18446744073709551616 := by
  simp [Lit.wf, IntKind.min, IntKind.max, IntKind.bits, IntKind.signed] at h
  exact ⟨z.toNat, by omega, by omega⟩
section
variable {H : Type} {enc : TypeId × Value → H} {W : World}
theorem spans_cell {fuel : Nat} {cs : List Value} {y : DataW H × List MemPlace} (hlen0 : cs.length = 1) (h : DataW.trod enc Try.prog W 0 (fun _ => true) true fuel 27 cs = some y) :
    ∃ (A : Option Addr) (c : Nat) (l : List Sp), cs = [.slice A l.length c] ∧ ChI W W.heap.size A c l := by
  match cs, hlen0 with
  | [v], _ =>
    obtain ⟨A, c, l, e, h1⟩ := spans_in h
    exact ⟨A, c, l, by rw [e], h1⟩
theorem record_cells {fuel : Nat} {cs : List Value} {y : DataW H × List MemPlace} (hlen0 : cs.length = 6) (h : DataW.trod enc Try.prog W 0 (fun _ => true) true fuel 29 cs = some y) : ∃ x : MR, cs = mrCells x ∧ OkMR W W.heap.size x := by
  match cs, hlen0 with
  | [c0, c1, c2, c3, c4, c5], _ =>
    obtain ⟨xs, n, _, hx, _, hlen, hg⟩ := DataW.trod_struct Try.underlying29 h
    have g0 := hg 0 _ rfl
    have g1 := hg 1 _ rfl
    have g2 := hg 2 _ rfl
    have g3 := hg 3 _ rfl
    have g4 := hg 4 _ rfl
    have g5 := hg 5 _ rfl
    match xs, hlen with
    | [y0, y1, y2, y3, y4, y5], _ =>
      simp [cellsU64M, cellsSpansM] at g0 g1 g2 g3 g4 g5
      obtain ⟨k0, e0, _, h0⟩ := DataW.trod_int Try.underlying23 g0
      obtain ⟨k1, e1, _, h1⟩ := DataW.trod_int Try.underlying23 g1
      obtain ⟨k2, e2, _, h2⟩ := DataW.trod_int Try.underlying23 g2
      obtain ⟨k3, e3, _, h3⟩ := DataW.trod_int Try.underlying23 g3
      obtain ⟨A, c, l, e4, h4⟩ := spans_cell rfl g4
      obtain ⟨B, d, m, e5, h5⟩ := spans_cell rfl g5
      obtain ⟨m0, rfl, w0⟩ := u64_natM h0
      obtain ⟨m1, rfl, w1⟩ := u64_natM h1
      obtain ⟨m2, rfl, w2⟩ := u64_natM h2
      obtain ⟨m3, rfl, w3⟩ := u64_natM h3
      simp at e0 e1 e2 e3 e4 e5
      exact ⟨⟨⟨m0, m1, m2, m3, l, m⟩, A, c, B, d⟩, by rw [e0, e1, e2, e3, e4, e5]; rfl, w0, w1, w2, w3, h4, h5⟩
set_option maxRecDepth 100000 in
theorem record_in {r : Reach} {b0 : Nat} {v : Value} {d : DataW H} {p : List MemPlace} (hv : Value.okWide Try.prog W r b0 29 v) (h : DataW.Trod enc Try.prog W 0 (fun _ => true) true 29 v d p) :
    ∃ x : MR, v = recVal x ∧ OkMR W W.heap.size x := by
  obtain ⟨cs, rfl, hsz⟩ := okWide_struct Try.underlying29 hv
  obtain ⟨l⟩ := cs
  obtain ⟨fuel, hf⟩ := h
  obtain ⟨x, e, h1⟩ := record_cells (by simpa using hsz.trans cellsRecM) (by simpa [Value.cells] using hf)
  subst e
  exact ⟨x, rfl, h1⟩
theorem records_in {fuel : Nat} {v : Value} {y : DataW H × List MemPlace} (h : DataW.trod enc Try.prog W 0 (fun _ => true) true fuel 22 [v] = some y) :
    ∃ (A : Option Addr) (c : Nat) (l : List RecS), v = .slice A l.length c ∧ ChR W W.heap.size A c l := by
  obtain ⟨A, c, ms, e, _, h2, h3, h4, h5, h6⟩ := rowsG_in mrF Try.underlying22 cellsRecM (p := fun x => OkMR W W.heap.size x) (fun _ _ _ hl ht => record_cells hl ht) h
  exact ⟨A, c, ms.map MR.r, by rw [List.length_map]; exact e, by rw [List.length_map]; exact h3, h4, h5, ms, rfl, h6, h2⟩
end
end Go.Proofs.Ytjkmodfbbiojmaa
