/-
  Arguments of the statements on stretches, opened: slices of stretches, stretches, texts, ints.
-/
import Derived.Test.YtooegjdppeiccaaIRow
import Derived.Lib.SmallJoins
import Derived.Deep.Slices
import Derived.Deep.Fields
import Derived.ChangeSame
import Derived.OpenShut
import Derived.ChangeOld
namespace Go.Proofs.Ytooegjdppeiccaa
open Go.Joins Go.ChangeShapes Go.WideShapes Go.ChangeAt Go.RowKit Go.Deep

theorem laidOutI : laidOutB Try.prog = true := by kernel_rfl
theorem cellsSpanI : Try.prog.cellsOf 60 = 2 := by kernel_rfl
theorem cellsStrI : Try.prog.cellsOf 9 = 1 := by kernel_rfl
section
variable {H : Type} {enc : TypeId × Value → H} {W : World}
theorem span_cells {fuel : Nat} {cs : List Value} {y : DataW H × List MemPlace} (hlen0 : cs.length = 2) (h : DataW.trod enc Try.prog W 0 (fun _ => true) true fuel 60 cs = some y) : ∃ x : Sp, cs = spCells x ∧ True := by
  match cs, hlen0 with
  | [c0, c1], _ =>
    obtain ⟨xs, n, _, hx, _, hlen, hg⟩ := DataW.trod_struct Try.underlying60 h
    have g0 := hg 0 _ rfl
    have g1 := hg 1 _ rfl
    match xs, hlen with
    | [y0, y1], _ =>
      simp [cellsStrI] at g0 g1
      obtain ⟨s0, e0, _, h0⟩ := DataW.trod_string Try.underlying9 g0
      obtain ⟨s1, e1, _, h1⟩ := DataW.trod_string Try.underlying9 g1
      simp at e0 e1
      exact ⟨⟨s0.data.toList, s1.data.toList⟩, by rw [e0, e1]; simp only [spCells]; rw [← bs_of, ← bs_of], trivial⟩
set_option maxRecDepth 100000 in
theorem span_in {r : Reach} {b0 : Nat} {v : Value} {d : DataW H} {p : List MemPlace} (hv : Value.okWide Try.prog W r b0 60 v) (h : DataW.Trod enc Try.prog W 0 (fun _ => true) true 60 v d p) :
    ∃ x : Sp, v = spVal x := by
  obtain ⟨cs, rfl, hsz⟩ := okWide_struct Try.underlying60 hv
  obtain ⟨l⟩ := cs
  obtain ⟨fuel, hf⟩ := h
  obtain ⟨x, e, _⟩ := span_cells (by simpa using hsz.trans cellsSpanI) (by simpa [Value.cells] using hf)
  subst e
  exact ⟨x, rfl⟩
theorem spans_in {fuel : Nat} {v : Value} {y : DataW H × List MemPlace} (h : DataW.trod enc Try.prog W 0 (fun _ => true) true fuel 62 [v] = some y) :
    ∃ (A : Option Addr) (c : Nat) (l : List Sp), v = .slice A l.length c ∧ ChI W W.heap.size A c l := by
  obtain ⟨A, c, l, e, _, _, h3, h4, h5, h6⟩ := rowsG_in spF Try.underlying62 cellsSpanI (p := fun _ => True) (fun _ _ _ hl ht => span_cells hl ht) h
  exact ⟨A, c, l, e, h3, h4, h5, h6⟩
theorem i64_inI {a : Int} (h : (Lit.int .i64 a).wf = true) : -9223372036854775808 ≤ a ∧ a ≤ 9223372036854775807 := by
  simp [Lit.wf, IntKind.min, IntKind.max, IntKind.bits, IntKind.signed] at h
  exact ⟨by omega, by omega⟩
end
end Go.Proofs.Ytooegjdppeiccaa
