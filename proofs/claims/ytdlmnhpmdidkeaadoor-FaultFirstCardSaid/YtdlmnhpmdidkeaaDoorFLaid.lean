/-
  What the rows' condition on the package-level variables gives the walks; and a world that meets it.
-/
import Derived.Test.YtdlmnhpmdidkeaaDoorFBase
import Derived.LaidMore
import Derived.ProofKit
import Derived.Stop.Joined
import Derived.Lib.LaidTab
namespace Go.Proofs.YtdlmnhpmdidkeaaDoor
open Go.RowKit

theorem ownKnob_none : ownKnob Tryd.prog.godebug = none := by kernel_rfl
theorem laidOut_all : laidOutB Tryd.prog = true := by kernel_rfl

/-- The door's own heap meets the condition. -/
theorem door_met (os : Os) (args : Array Value) : laidMetH Tryd.prog Rows.faultTellsRow.laid ((World.doorLaid Tryd.prog 31 os).forCall (fun _ _ => 0) ⟨#[], args, []⟩).memory :=
  laidMetH_of_parts3 (fuel := 8) (laidMet_of_run' 8 (by kernel_rfl) (by kernel_rfl)) (by kernel_rfl) (by kernel_rfl)

theorem gEt : Tryd.prog.globalNamed "errors.errorType" = some 0 := by kernel_rfl
theorem oneError : ((List.range Tryd.prog.types.size).filter fun t => Tryd.prog.rowNamed t [101, 114, 114, 111, 114]) = [27] := by kernel_rfl
theorem handleError : typeHandle Tryd.prog 27 = .pointer (some ⟨5, 27, none⟩) := by kernel_rfl

theorem glob_of_laid {W : World} (h : laidMetH Tryd.prog Rows.faultTellsRow.laid W) : Glob W := by
  have h' : laidMet Tryd.prog [(_, Rows.laid_math_bits_deBruijn32tab), (_, Rows.laid_math_bits_deBruijn64tab), (_, Rows.laid_internal_strconv_uint64pow10)] W ∧ handlesMet Tryd.prog [(_, Rows.laid_errors_errorType)] W := h
  obtain ⟨⟨ps, ⟨g0, t0, cs0, f0, p0, q0, hg0, ht0, hv0, hd0, ⟨g1, t1, cs1, f1, p1, q1, hg1, ht1, hv1, hd1, ⟨g2, t2, cs2, f2, p2, q2, hg2, ht2, hv2, hd2, _, _⟩, _⟩, _⟩, _⟩, hh⟩ := h'
  obtain ⟨name, u, ty, e1, e2, e3, e4, e5⟩ := hh _ (List.mem_singleton.2 rfl)
  have en : name = [101, 114, 114, 111, 114] := (Option.some.inj e1).symm
  subst en
  obtain rfl : u = 94 := Option.some.inj (e2.symm.trans (by kernel_rfl))
  have hm : ty ∈ (List.range Tryd.prog.types.size).filter fun t => Tryd.prog.rowNamed t [101, 114, 114, 111, 114] := List.mem_filter.2 ⟨List.mem_range.2 e3, e4⟩
  rw [oneError] at hm
  obtain rfl := List.mem_singleton.1 hm
  rw [handleError] at e5
  obtain rfl : g1 = 4 := Option.some.inj (hg1.symm.trans (by kernel_rfl))
  obtain rfl : g2 = 1 := Option.some.inj (hg2.symm.trans (by kernel_rfl))
  obtain rfl := Option.some.inj ((show (Tryd.prog.globals[1]?).map (·.type) = some 121 by kernel_rfl).symm.trans ht2)
  have hcs := Lib.cells_of_tab (k := .u64) (zs := Lib.pow10Tab) Tryd.underlying121 Tryd.underlying112 (by kernel_rfl) (by kernel_rfl) hd2
  refine ⟨?_, ?_, ?_⟩
  · simpa using World.var?_cell gEt e5 0
  · unfold World.var? at hv2
    rw [hg2, Option.bind_some] at hv2
    split at hv2
    · next cs t fz hw =>
      obtain rfl := Option.some.inj hv2
      refine ⟨t, fz, hw.trans ?_⟩
      rw [← hcs]
    · cases hv2
  · unfold World.var? at hv1
    rw [hg1, Option.bind_some] at hv1
    split at hv1
    · next cs t fz hw =>
      have := (Array.getElem?_eq_some_iff.1 hw).1
      exact this
    · cases hv1
end Go.Proofs.YtdlmnhpmdidkeaaDoor
