/-
  A region that draws its order, walked once in the order of its text over a class of worlds.
-/
import Derived.Test.YtooegjdppeiccaaBase
import Derived.BigQuiet
namespace Go.Proofs.Ytooegjdppeiccaa
open Go.RowKit

theorem wp_region_classJ {P : Program} {C : World → Prop} {id : Nat} {Q : Exit → Act → World → Prop} {a : Act} {w : World} {l : List Oper} (hm : P.follows .mixedOrders = true) (hB : Region.lexB .any l.toArray = true) (hC : C w.drew)
    (h : wpQuiet P l.toArray C (fun a' => ∀ w', C w' → Q .normal a' w') l a) : (Code.region id l.toArray true).wp P Q a w :=
  wp_region_quiet (C := C) hm hB hC (by simpa using h)
end Go.Proofs.Ytooegjdppeiccaa
