/-
  Arguments of the statements on chains, opened: slices of versions, versions, times.
-/
import Derived.Test.YtnfmgcgjinonnaaHLaw
import Derived.Test.YtnfmgcgjinonnaaArgs
import Derived.Lib.SmallJoins
import Derived.ChangeSame
import Derived.OpenShut
import Derived.ChangeOld
namespace Go.Proofs.Ytnfmgcgjinonnaa
open Go.Joins Go.ChangeShapes Go.WideShapes Go.ChangeAt Go.RowKit Go.Deep

theorem laidOutH : laidOutB Try.prog = true := by kernel_rfl
theorem cellsVersion : Try.prog.cellsOf 30 = 3 := by kernel_rfl
theorem cellsU64 : Try.prog.cellsOf 27 = 1 := by kernel_rfl
theorem cellsBool : Try.prog.cellsOf 4 = 1 := by kernel_rfl
theorem cellsBytes : Try.prog.cellsOf 28 = 1 := by kernel_rfl
theorem u64_nat {z : Int} (h : (Lit.int .u64 z).wf = true) : ∃ n : Nat, z = (n : Int) ∧ n < 18446744073709551616 := by
  simp [Lit.wf, IntKind.min, IntKind.max, IntKind.bits, IntKind.signed] at h
  exact ⟨z.toNat, by omega, by omega⟩
section
variable {H : Type} {enc : TypeId × Value → H} {W : World}
theorem bytes_cell {fuel : Nat} {cs : List Value} {y : DataW H × List MemPlace} (h : DataW.trod enc Try.prog W 0 (fun _ => true) true fuel 28 cs = some y) : ∃ A c, ∃ l : List UInt8, cs = [.slice A l.length c] ∧ Sl W W.heap.size A c l := by
  rcases open_ints Try.underlying28 Try.underlying5 (by kernel_rfl) h with ⟨hcs, _⟩ | ⟨x, n, c, zs, hcs, _, hl, hm, hz, _, hcell, hwz⟩
  · exact ⟨none, 0, [], hcs, Sl.none_ _ _⟩
  · obtain ⟨l, rfl, h1, h2, h3, h4⟩ := bytes_in (w := W) (a := some x) (len := n) (cap := c) (zs := zs) (.inr ⟨_, rfl, hl, hm, by simpa using hz, hcell, hwz⟩)
    exact ⟨some x, c, l, hcs, h1, h2, h3, h4⟩
theorem version_cells {fuel : Nat} {cs : List Value} {y : DataW H × List MemPlace} (hlen0 : cs.length = 3) (h : DataW.trod enc Try.prog W 0 (fun _ => true) true fuel 30 cs = some y) : ∃ x : MV, cs = mvCells x ∧ OkMV W W.heap.size x := by
  match cs, hlen0 with
  | [c0, c1, c2], _ =>
    obtain ⟨xs, n, _, hx, _, hlen, hg⟩ := DataW.trod_struct Try.underlying30 h
    have g0 := hg 0 _ rfl
    have g1 := hg 1 _ rfl
    have g2 := hg 2 _ rfl
    match xs, hlen with
    | [y0, y1, y2], _ =>
      simp [cellsU64, cellsBool, cellsBytes] at g0 g1 g2
      obtain ⟨k, e0, _, hk⟩ := DataW.trod_int Try.underlying27 g0
      obtain ⟨b, e1, _⟩ := DataW.trod_bool Try.underlying4 g1
      obtain ⟨A, c, l, e2, hs⟩ := bytes_cell g2
      obtain ⟨m, rfl, hm⟩ := u64_nat hk
      simp at e0 e1 e2
      exact ⟨⟨⟨m, b, l⟩, A, c⟩, by rw [e0, e1, e2]; rfl, hm, hs⟩
set_option maxRecDepth 100000 in
theorem version_in {r : Reach} {b0 : Nat} {v : Value} {d : DataW H} {p : List MemPlace} (hv : Value.okWide Try.prog W r b0 30 v) (h : DataW.Trod enc Try.prog W 0 (fun _ => true) true 30 v d p) :
    ∃ (x : Ver) (A : Option Addr) (c : Nat), v = verVal x A c ∧ x.tm < 18446744073709551616 ∧ Sl W W.heap.size A c x.dat := by
  obtain ⟨cs, rfl, hsz⟩ := okWide_struct Try.underlying30 hv
  obtain ⟨l⟩ := cs
  obtain ⟨fuel, hf⟩ := h
  obtain ⟨x, e, h1, h2⟩ := version_cells (by simpa using hsz.trans cellsVersion) (by simpa [Value.cells] using hf)
  subst e
  exact ⟨x.v, x.A, x.c, rfl, h1, h2⟩
theorem versions_in {fuel : Nat} {v : Value} {y : DataW H × List MemPlace} (h : DataW.trod enc Try.prog W 0 (fun _ => true) true fuel 22 [v] = some y) :
    ∃ (A : Option Addr) (c : Nat) (l : List Ver), v = .slice A l.length c ∧ ChH W W.heap.size A c l := by
  obtain ⟨A, c, ms, e, _, h2, h3, h4, h5, h6⟩ := rowsG_in mvF Try.underlying22 cellsVersion (p := fun x => OkMV W W.heap.size x) (fun _ _ _ hl ht => version_cells hl ht) h
  exact ⟨A, c, ms.map MV.v, by rw [List.length_map]; exact e, by rw [List.length_map]; exact h3, h4, h5, ms, rfl, h6, h2⟩
end
end Go.Proofs.Ytnfmgcgjinonnaa
