/-
  No cell of these rows narrows 'for every input' (looked for: loops, veiled, ifaces, maps, wideKeys, modest, calm, conditions, laid).
  DERIVED. THE GIVEN ROWS OF THIS SEAT. 4 by the template 'for every input the law returns true; each argument reads behind the call as it read before'; 0 by the template 'total and deterministic' (their statements: YtfdiidhilonkoaaTotals.lean).
  GIVEN WITH THE SEED: the statements are not yours to turn. If you find one false, say at which input.
  Laid BY PROGRAM, IN A SANDBOX (cutbox-rows.mjs): the forced cells as the released guide's own fill.sh prints them over the translation 594cf0214d3ef351… (all of the seat's roots in one cut). By AI agents, Wed Nov 11 2026. No macro, syntax, notation, axiom, sorry.
-/
import Derived.Test.YtfdiidhilonkoaaChecked
import GoSem.Claim
import GoSem.ClaimJoined
import GoSem.ClaimMapViews
import Derived.JoinedTies
import Derived.KernelRfl
namespace Go.Proofs.Ytfdiidhilonkoaa
/- THE CELL 'sum', in the pinned program and in every row, IS THE sha256 OF THE DUMP (.gsa) THAT YtfdiidhilonkoaaProg.lean LOADS. Nothing in Lean hashes anything: it is a label: what it is worth is what the hold of that sum in a sandbox is worth. -/
noncomputable def Try.pinned : Pinned := { name := "ytfdiidhilonkoaa", sum := "594cf0214d3ef351ae9ceb1dfe581beb074fb32c47fbf7a36d405416aebb3d2d", checked := Try.checked }
namespace Rows
def none {H : Type} : Left H := { results := [], args := [] }

/-- 'conductorlaw12.OrderEdges': WHATEVER THE INPUT: true; the input reads as it did. -/
def orderEdgesSpec : ChangeSpec := { name := "orderEdges", fn := fun _ => fun
  | [d1, d2] => { results := [.lit (.bool true)], args := [d1, d2] }
  | _ => none }
def orderEdgesRow : OpenClaim := { program := "ytfdiidhilonkoaa", sum := "594cf0214d3ef351ae9ceb1dfe581beb074fb32c47fbf7a36d405416aebb3d2d", func := "conductor/conductorlaw12.OrderEdges", spec := "orderEdges", inPlace := ["internal/bytealg.abigen_runtime_cmpstring"], unfollowed := true, recurses := true, apart := false }
def OrderEdgesSaid : Prop := orderEdgesRow.holds Try.pinned (OpenSpec.ofChange orderEdgesSpec)

/-- ITS FALSE NEIGHBOUR: 'it returns false'. Refute it at one input. -/
def orderEdgesWrong : ChangeSpec := { name := "orderEdges", fn := fun _ => fun
  | [d1, d2] => { results := [.lit (.bool false)], args := [d1, d2] }
  | _ => none }
def OrderEdgesWrongFalsely : Prop := orderEdgesRow.holds Try.pinned (OpenSpec.ofChange orderEdgesWrong)

/-- 'conductorlaw12.OrderLays': WHATEVER THE INPUT: true; the input reads as it did. -/
def orderLaysSpec : ChangeSpec := { name := "orderLays", fn := fun _ => fun
  | [d] => { results := [.lit (.bool true)], args := [d] }
  | _ => none }
def orderLaysRow : OpenClaim := { program := "ytfdiidhilonkoaa", sum := "594cf0214d3ef351ae9ceb1dfe581beb074fb32c47fbf7a36d405416aebb3d2d", func := "conductor/conductorlaw12.OrderLays", spec := "orderLays", inPlace := ["internal/bytealg.abigen_runtime_cmpstring"], unfollowed := true, recurses := true, apart := false }
def OrderLaysSaid : Prop := orderLaysRow.holds Try.pinned (OpenSpec.ofChange orderLaysSpec)

/-- ITS FALSE NEIGHBOUR: 'it returns false'. Refute it at one input. -/
def orderLaysWrong : ChangeSpec := { name := "orderLays", fn := fun _ => fun
  | [d] => { results := [.lit (.bool false)], args := [d] }
  | _ => none }
def OrderLaysWrongFalsely : Prop := orderLaysRow.holds Try.pinned (OpenSpec.ofChange orderLaysWrong)

/-- 'conductorlaw12.OrderRight': WHATEVER THE INPUT: true; the input reads as it did. -/
def orderRightSpec : ChangeSpec := { name := "orderRight", fn := fun _ => fun
  | [d] => { results := [.lit (.bool true)], args := [d] }
  | _ => none }
def orderRightRow : OpenClaim := { program := "ytfdiidhilonkoaa", sum := "594cf0214d3ef351ae9ceb1dfe581beb074fb32c47fbf7a36d405416aebb3d2d", func := "conductor/conductorlaw12.OrderRight", spec := "orderRight", inPlace := ["internal/bytealg.abigen_runtime_cmpstring"], unfollowed := true, recurses := true, apart := false }
def OrderRightSaid : Prop := orderRightRow.holds Try.pinned (OpenSpec.ofChange orderRightSpec)

/-- ITS FALSE NEIGHBOUR: 'it returns false'. Refute it at one input. -/
def orderRightWrong : ChangeSpec := { name := "orderRight", fn := fun _ => fun
  | [d] => { results := [.lit (.bool false)], args := [d] }
  | _ => none }
def OrderRightWrongFalsely : Prop := orderRightRow.holds Try.pinned (OpenSpec.ofChange orderRightWrong)

/-- 'conductorlaw12.OrderTime': WHATEVER THE INPUT: true; the input reads as it did. -/
def orderTimeSpec : ChangeSpec := { name := "orderTime", fn := fun _ => fun
  | [d1, d2, d3] => { results := [.lit (.bool true)], args := [d1, d2, d3] }
  | _ => none }
def orderTimeRow : OpenClaim := { program := "ytfdiidhilonkoaa", sum := "594cf0214d3ef351ae9ceb1dfe581beb074fb32c47fbf7a36d405416aebb3d2d", func := "conductor/conductorlaw12.OrderTime", spec := "orderTime", inPlace := ["internal/bytealg.abigen_runtime_cmpstring"], unfollowed := true, recurses := true, apart := false }
def OrderTimeSaid : Prop := orderTimeRow.holds Try.pinned (OpenSpec.ofChange orderTimeSpec)

/-- ITS FALSE NEIGHBOUR: 'it returns false'. Refute it at one input. -/
def orderTimeWrong : ChangeSpec := { name := "orderTime", fn := fun _ => fun
  | [d1, d2, d3] => { results := [.lit (.bool false)], args := [d1, d2, d3] }
  | _ => none }
def OrderTimeWrongFalsely : Prop := orderTimeRow.holds Try.pinned (OpenSpec.ofChange orderTimeWrong)

/- THE SECOND FORM. 'bulk': how many values and letters a reading holds, each counted each time it is reached (what is shared counts as often as it is met; a slice's spare places count too). A statement '..UptoSaid' is the law's where the arguments, and the package variables that the reading takes, are together of bulk at most 1048576: NARROWER than '..Said'. Prove '..Said' where nothing that the law and all that it calls make is longer than what came in: it says more and counts as full. Else prove '..UptoSaid'. A law counts once. -/
mutual
def uptoBulk {H : Type} : DataW H → Nat
  | .lit (.string bytes) => bytes.length + 1
  | .lit _ => 1
  | .nil => 1
  | .ptr d => uptoBulk d + 1
  | .slice elems spare => uptoBulkAll elems + uptoBulkAll spare + 1
  | .agg parts => uptoBulkAll parts + 1
  | .iface _ d => uptoBulk d + 1
  | .map entries => uptoBulkEntries entries + 1
  | .held _ => 1
def uptoBulkAll {H : Type} : List (DataW H) → Nat
  | [] => 0
  | d :: r => uptoBulk d + uptoBulkAll r
def uptoBulkEntries {H : Type} : List (Lit × DataW H) → Nat
  | [] => 0
  | x :: r => uptoBulkEntry x + uptoBulkEntries r
def uptoBulkEntry {H : Type} : Lit × DataW H → Nat
  | (.string bytes, d) => bytes.length + uptoBulk d + 1
  | (_, d) => uptoBulk d + 1
 end
def uptoSmall : (H : Type) → List (DataW H) → Bool := fun _ ds => decide (uptoBulkAll ds ≤ 1048576)
def OpenSpec.upto (s : _root_.Go.ChangeSpec) : _root_.Go.OpenSpec := { _root_.Go.OpenSpec.ofChange s with cond := some uptoSmall }

/-- 'conductorlaw12.OrderEdges', WHERE WHAT IT READS IS OF BULK AT MOST 1048576: true; the input reads as it did. -/
def orderEdgesUptoRow : OpenClaim := { program := "ytfdiidhilonkoaa", sum := "594cf0214d3ef351ae9ceb1dfe581beb074fb32c47fbf7a36d405416aebb3d2d", func := "conductor/conductorlaw12.OrderEdges", spec := "orderEdges", inPlace := ["internal/bytealg.abigen_runtime_cmpstring"], unfollowed := true, recurses := true, apart := false, narrowed := true }
def OrderEdgesUptoSaid : Prop := orderEdgesUptoRow.holds Try.pinned (OpenSpec.upto orderEdgesSpec)

/-- 'conductorlaw12.OrderLays', WHERE WHAT IT READS IS OF BULK AT MOST 1048576: true; the input reads as it did. -/
def orderLaysUptoRow : OpenClaim := { program := "ytfdiidhilonkoaa", sum := "594cf0214d3ef351ae9ceb1dfe581beb074fb32c47fbf7a36d405416aebb3d2d", func := "conductor/conductorlaw12.OrderLays", spec := "orderLays", inPlace := ["internal/bytealg.abigen_runtime_cmpstring"], unfollowed := true, recurses := true, apart := false, narrowed := true }
def OrderLaysUptoSaid : Prop := orderLaysUptoRow.holds Try.pinned (OpenSpec.upto orderLaysSpec)

/-- 'conductorlaw12.OrderRight', WHERE WHAT IT READS IS OF BULK AT MOST 1048576: true; the input reads as it did. -/
def orderRightUptoRow : OpenClaim := { program := "ytfdiidhilonkoaa", sum := "594cf0214d3ef351ae9ceb1dfe581beb074fb32c47fbf7a36d405416aebb3d2d", func := "conductor/conductorlaw12.OrderRight", spec := "orderRight", inPlace := ["internal/bytealg.abigen_runtime_cmpstring"], unfollowed := true, recurses := true, apart := false, narrowed := true }
def OrderRightUptoSaid : Prop := orderRightUptoRow.holds Try.pinned (OpenSpec.upto orderRightSpec)

/-- 'conductorlaw12.OrderTime', WHERE WHAT IT READS IS OF BULK AT MOST 1048576: true; the input reads as it did. -/
def orderTimeUptoRow : OpenClaim := { program := "ytfdiidhilonkoaa", sum := "594cf0214d3ef351ae9ceb1dfe581beb074fb32c47fbf7a36d405416aebb3d2d", func := "conductor/conductorlaw12.OrderTime", spec := "orderTime", inPlace := ["internal/bytealg.abigen_runtime_cmpstring"], unfollowed := true, recurses := true, apart := false, narrowed := true }
def OrderTimeUptoSaid : Prop := orderTimeUptoRow.holds Try.pinned (OpenSpec.upto orderTimeSpec)

end Rows
end Go.Proofs.Ytfdiidhilonkoaa
