import Derived.Test.YtdenlghnfefbnaaZC43
/-
  An operation by value, opened.
-/
namespace Go.Proofs.Ytdenlghnfefbnaa
open Go.Joins Go.ChangeShapes Go.WideShapes Go.ChangeAt Go.RowKit Go.Deep

set_option maxRecDepth 100000 in
theorem op_in {H : Type} {enc : TypeId × Value → H} {W : World} {r : Reach} {b0 : Nat} {v : Value} {d : DataW H} {p : List MemPlace} (hv : Value.okWide Try.prog W r b0 39 v) (h : DataW.Trod enc Try.prog W 0 (fun _ => true) true 39 v d p) :
    ∃ (o : OpS) (A : Option Addr) (c : Nat), v = opVal o A c ∧ OkMO W W.heap.size ⟨o, A, c⟩ := by
  obtain ⟨cs, rfl, hsz⟩ := okWide_struct Try.underlying39 hv
  obtain ⟨l⟩ := cs
  obtain ⟨fuel, hf⟩ := h
  have hf : DataW.trod enc Try.prog W 0 (fun _ => true) true fuel 39 l = some (d, p) := by simpa [Value.cells] using hf
  obtain ⟨⟨o, A, c⟩, rfl, hok⟩ := op_cells (hsz.trans cellsOpJ) hf
  exact ⟨o, A, c, rfl, hok⟩
end Go.Proofs.Ytdenlghnfefbnaa
