/-
  No cell of these rows narrows 'for every input' (looked for: loops, veiled, ifaces, maps, wideKeys, modest, calm, conditions, laid).
  DERIVED. THE GIVEN ROWS OF THIS SEAT. 9 by the template 'for every input the law returns true; each argument reads behind the call as it read before'; 0 by the template 'total and deterministic' (their statements: YtdpbllacfljmoaaGreatTotals.lean).
  GIVEN WITH THE SEED: the statements are not yours to turn. If you find one false, say at which input.
  Laid BY PROGRAM, IN A SANDBOX (cutbox-rows.mjs): the forced cells as the released guide's own fill.sh prints them over the translation 9fee9998a9567fc5… (all of the seat's roots in one cut). By AI agents, Wed Nov 11 2026. No macro, syntax, notation, axiom, sorry.
-/
import Derived.Test.YtdpbllacfljmoaaGreatChecked
import GoSem.Claim
import GoSem.ClaimJoined
import GoSem.ClaimMapViews
import Derived.JoinedTies
import Derived.KernelRfl
namespace Go.Proofs.YtdpbllacfljmoaaGreat
/- THE CELL 'sum', in the pinned program and in every row, IS THE sha256 OF THE DUMP (.gsa) THAT YtdpbllacfljmoaaGreatProg.lean LOADS. Nothing in Lean hashes anything: it is a label: what it is worth is what the hold of that sum in a sandbox is worth. -/
noncomputable def Tryz.pinned : Pinned := { name := "ytdpbllacfljmoaagreat", sum := "9fee9998a9567fc56a7a766cfa183e72b25cc12aef45c619ada29b853337c064", checked := Tryz.checked }
namespace Rows
def none {H : Type} : Left H := { results := [], args := [] }

/-- 'conductorlaw11.TxnDoes': WHATEVER THE INPUT: true; the input reads as it did. -/
def txnDoesSpec : ChangeSpec := { name := "txnDoes", fn := fun _ => fun
  | [d1, d2] => { results := [.lit (.bool true)], args := [d1, d2] }
  | _ => none }
def txnDoesRow : OpenClaim := { program := "ytdpbllacfljmoaagreat", sum := "9fee9998a9567fc56a7a766cfa183e72b25cc12aef45c619ada29b853337c064", func := "conductor/conductorlaw11.TxnDoes", spec := "txnDoes", inPlace := ["internal/bytealg.abigen_runtime_cmpstring"], unfollowed := true, recurses := true, apart := false }
def TxnDoesSaid : Prop := txnDoesRow.holds Tryz.pinned (OpenSpec.ofChange txnDoesSpec)

/-- ITS FALSE NEIGHBOUR: 'it returns false'. Refute it at one input. -/
def txnDoesWrong : ChangeSpec := { name := "txnDoes", fn := fun _ => fun
  | [d1, d2] => { results := [.lit (.bool false)], args := [d1, d2] }
  | _ => none }
def TxnDoesWrongFalsely : Prop := txnDoesRow.holds Tryz.pinned (OpenSpec.ofChange txnDoesWrong)

/-- 'conductorlaw11.TxnSnapshots': WHATEVER THE INPUT: true; the input reads as it did. -/
def txnSnapshotsSpec : ChangeSpec := { name := "txnSnapshots", fn := fun _ => fun
  | [d1, d2, d3] => { results := [.lit (.bool true)], args := [d1, d2, d3] }
  | _ => none }
def txnSnapshotsRow : OpenClaim := { program := "ytdpbllacfljmoaagreat", sum := "9fee9998a9567fc56a7a766cfa183e72b25cc12aef45c619ada29b853337c064", func := "conductor/conductorlaw11.TxnSnapshots", spec := "txnSnapshots", inPlace := ["internal/bytealg.abigen_runtime_cmpstring"], unfollowed := true, recurses := true, apart := false }
def TxnSnapshotsSaid : Prop := txnSnapshotsRow.holds Tryz.pinned (OpenSpec.ofChange txnSnapshotsSpec)

/-- ITS FALSE NEIGHBOUR: 'it returns false'. Refute it at one input. -/
def txnSnapshotsWrong : ChangeSpec := { name := "txnSnapshots", fn := fun _ => fun
  | [d1, d2, d3] => { results := [.lit (.bool false)], args := [d1, d2, d3] }
  | _ => none }
def TxnSnapshotsWrongFalsely : Prop := txnSnapshotsRow.holds Tryz.pinned (OpenSpec.ofChange txnSnapshotsWrong)

/-- 'conductorlaw11.TxnFirst': WHATEVER THE INPUT: true; the input reads as it did. -/
def txnFirstSpec : ChangeSpec := { name := "txnFirst", fn := fun _ => fun
  | [d1, d2, d3, d4] => { results := [.lit (.bool true)], args := [d1, d2, d3, d4] }
  | _ => none }
def txnFirstRow : OpenClaim := { program := "ytdpbllacfljmoaagreat", sum := "9fee9998a9567fc56a7a766cfa183e72b25cc12aef45c619ada29b853337c064", func := "conductor/conductorlaw11.TxnFirst", spec := "txnFirst", inPlace := ["internal/bytealg.abigen_runtime_cmpstring"], unfollowed := true, recurses := true, apart := false }
def TxnFirstSaid : Prop := txnFirstRow.holds Tryz.pinned (OpenSpec.ofChange txnFirstSpec)

/-- ITS FALSE NEIGHBOUR: 'it returns false'. Refute it at one input. -/
def txnFirstWrong : ChangeSpec := { name := "txnFirst", fn := fun _ => fun
  | [d1, d2, d3, d4] => { results := [.lit (.bool false)], args := [d1, d2, d3, d4] }
  | _ => none }
def TxnFirstWrongFalsely : Prop := txnFirstRow.holds Tryz.pinned (OpenSpec.ofChange txnFirstWrong)

/-- 'conductorlaw11.TxnAlone': WHATEVER THE INPUT: true; the input reads as it did. -/
def txnAloneSpec : ChangeSpec := { name := "txnAlone", fn := fun _ => fun
  | [d] => { results := [.lit (.bool true)], args := [d] }
  | _ => none }
def txnAloneRow : OpenClaim := { program := "ytdpbllacfljmoaagreat", sum := "9fee9998a9567fc56a7a766cfa183e72b25cc12aef45c619ada29b853337c064", func := "conductor/conductorlaw11.TxnAlone", spec := "txnAlone", inPlace := ["internal/bytealg.abigen_runtime_cmpstring"], unfollowed := true, recurses := true, apart := false }
def TxnAloneSaid : Prop := txnAloneRow.holds Tryz.pinned (OpenSpec.ofChange txnAloneSpec)

/-- ITS FALSE NEIGHBOUR: 'it returns false'. Refute it at one input. -/
def txnAloneWrong : ChangeSpec := { name := "txnAlone", fn := fun _ => fun
  | [d] => { results := [.lit (.bool false)], args := [d] }
  | _ => none }
def TxnAloneWrongFalsely : Prop := txnAloneRow.holds Tryz.pinned (OpenSpec.ofChange txnAloneWrong)

/-- 'conductorlaw11.TxnNoEffect': WHATEVER THE INPUT: true; the input reads as it did. -/
def txnNoEffectSpec : ChangeSpec := { name := "txnNoEffect", fn := fun _ => fun
  | [d1, d2] => { results := [.lit (.bool true)], args := [d1, d2] }
  | _ => none }
def txnNoEffectRow : OpenClaim := { program := "ytdpbllacfljmoaagreat", sum := "9fee9998a9567fc56a7a766cfa183e72b25cc12aef45c619ada29b853337c064", func := "conductor/conductorlaw11.TxnNoEffect", spec := "txnNoEffect", inPlace := ["internal/bytealg.abigen_runtime_cmpstring"], unfollowed := true, recurses := true, apart := false }
def TxnNoEffectSaid : Prop := txnNoEffectRow.holds Tryz.pinned (OpenSpec.ofChange txnNoEffectSpec)

/-- ITS FALSE NEIGHBOUR: 'it returns false'. Refute it at one input. -/
def txnNoEffectWrong : ChangeSpec := { name := "txnNoEffect", fn := fun _ => fun
  | [d1, d2] => { results := [.lit (.bool false)], args := [d1, d2] }
  | _ => none }
def TxnNoEffectWrongFalsely : Prop := txnNoEffectRow.holds Tryz.pinned (OpenSpec.ofChange txnNoEffectWrong)

/-- 'conductorlaw11.TxnUnseen': WHATEVER THE INPUT: true; the input reads as it did. -/
def txnUnseenSpec : ChangeSpec := { name := "txnUnseen", fn := fun _ => fun
  | [d1, d2] => { results := [.lit (.bool true)], args := [d1, d2] }
  | _ => none }
def txnUnseenRow : OpenClaim := { program := "ytdpbllacfljmoaagreat", sum := "9fee9998a9567fc56a7a766cfa183e72b25cc12aef45c619ada29b853337c064", func := "conductor/conductorlaw11.TxnUnseen", spec := "txnUnseen", inPlace := ["internal/bytealg.abigen_runtime_cmpstring"], unfollowed := true, recurses := true, apart := false }
def TxnUnseenSaid : Prop := txnUnseenRow.holds Tryz.pinned (OpenSpec.ofChange txnUnseenSpec)

/-- ITS FALSE NEIGHBOUR: 'it returns false'. Refute it at one input. -/
def txnUnseenWrong : ChangeSpec := { name := "txnUnseen", fn := fun _ => fun
  | [d1, d2] => { results := [.lit (.bool false)], args := [d1, d2] }
  | _ => none }
def TxnUnseenWrongFalsely : Prop := txnUnseenRow.holds Tryz.pinned (OpenSpec.ofChange txnUnseenWrong)

/-- 'conductorlaw11.TxnLimits': WHATEVER THE INPUT: true; the input reads as it did. -/
def txnLimitsSpec : ChangeSpec := { name := "txnLimits", fn := fun _ => fun
  | [d1, d2] => { results := [.lit (.bool true)], args := [d1, d2] }
  | _ => none }
def txnLimitsRow : OpenClaim := { program := "ytdpbllacfljmoaagreat", sum := "9fee9998a9567fc56a7a766cfa183e72b25cc12aef45c619ada29b853337c064", func := "conductor/conductorlaw11.TxnLimits", spec := "txnLimits", inPlace := ["internal/bytealg.abigen_runtime_cmpstring"], unfollowed := true, recurses := true, apart := false }
def TxnLimitsSaid : Prop := txnLimitsRow.holds Tryz.pinned (OpenSpec.ofChange txnLimitsSpec)

/-- ITS FALSE NEIGHBOUR: 'it returns false'. Refute it at one input. -/
def txnLimitsWrong : ChangeSpec := { name := "txnLimits", fn := fun _ => fun
  | [d1, d2] => { results := [.lit (.bool false)], args := [d1, d2] }
  | _ => none }
def TxnLimitsWrongFalsely : Prop := txnLimitsRow.holds Tryz.pinned (OpenSpec.ofChange txnLimitsWrong)

/-- 'conductorlaw11.TxnNone': WHATEVER THE INPUT: true; the input reads as it did. -/
def txnNoneSpec : ChangeSpec := { name := "txnNone", fn := fun _ => fun
  | [d1, d2] => { results := [.lit (.bool true)], args := [d1, d2] }
  | _ => none }
def txnNoneRow : OpenClaim := { program := "ytdpbllacfljmoaagreat", sum := "9fee9998a9567fc56a7a766cfa183e72b25cc12aef45c619ada29b853337c064", func := "conductor/conductorlaw11.TxnNone", spec := "txnNone", inPlace := ["internal/bytealg.abigen_runtime_cmpstring", "maps.clone"], unfollowed := true, recurses := true, apart := false }
def TxnNoneSaid : Prop := txnNoneRow.holds Tryz.pinned (OpenSpec.ofChange txnNoneSpec)

/-- ITS FALSE NEIGHBOUR: 'it returns false'. Refute it at one input. -/
def txnNoneWrong : ChangeSpec := { name := "txnNone", fn := fun _ => fun
  | [d1, d2] => { results := [.lit (.bool false)], args := [d1, d2] }
  | _ => none }
def TxnNoneWrongFalsely : Prop := txnNoneRow.holds Tryz.pinned (OpenSpec.ofChange txnNoneWrong)

/-- 'conductorlaw12.OrderSerial': WHATEVER THE INPUT: true; the input reads as it did. -/
def orderSerialSpec : ChangeSpec := { name := "orderSerial", fn := fun _ => fun
  | [d1, d2] => { results := [.lit (.bool true)], args := [d1, d2] }
  | _ => none }
def orderSerialRow : OpenClaim := { program := "ytdpbllacfljmoaagreat", sum := "9fee9998a9567fc56a7a766cfa183e72b25cc12aef45c619ada29b853337c064", func := "conductor/conductorlaw12.OrderSerial", spec := "orderSerial", inPlace := ["internal/bytealg.abigen_runtime_cmpstring"], unfollowed := true, recurses := true, apart := false }
def OrderSerialSaid : Prop := orderSerialRow.holds Tryz.pinned (OpenSpec.ofChange orderSerialSpec)

/-- ITS FALSE NEIGHBOUR: 'it returns false'. Refute it at one input. -/
def orderSerialWrong : ChangeSpec := { name := "orderSerial", fn := fun _ => fun
  | [d1, d2] => { results := [.lit (.bool false)], args := [d1, d2] }
  | _ => none }
def OrderSerialWrongFalsely : Prop := orderSerialRow.holds Tryz.pinned (OpenSpec.ofChange orderSerialWrong)

/- THE SECOND FORM. 'bulk': how many values and letters a reading holds, each counted each time it is reached (what is shared counts as often as it is met; a slice's spare places count too). A statement '..UptoSaid' is the law's where the arguments, and the package variables that the reading takes, are together of bulk at most 1048576: NARROWER than '..Said'. Prove '..Said' where nothing that the law and all that it calls make is longer than what came in: it says more and counts as full. Else prove '..UptoSaid'. A law counts once. -/
mutual
def uptoBulk {H : Type} : DataW H → Nat
  | .lit (.string bytes) => bytes.length + 1
  | .lit _ => 1
  | .nil => 1
  | .ptr d => uptoBulk d + 1
  | .slice elems spare => uptoBulkAll elems + uptoBulkAll spare + 1
  | .agg parts => uptoBulkAll parts + 1
  | .iface _ d => uptoBulk d + 1
  | .map entries => uptoBulkEntries entries + 1
  | .held _ => 1
def uptoBulkAll {H : Type} : List (DataW H) → Nat
  | [] => 0
  | d :: r => uptoBulk d + uptoBulkAll r
def uptoBulkEntries {H : Type} : List (Lit × DataW H) → Nat
  | [] => 0
  | x :: r => uptoBulkEntry x + uptoBulkEntries r
def uptoBulkEntry {H : Type} : Lit × DataW H → Nat
  | (.string bytes, d) => bytes.length + uptoBulk d + 1
  | (_, d) => uptoBulk d + 1
 end
def uptoSmall : (H : Type) → List (DataW H) → Bool := fun _ ds => decide (uptoBulkAll ds ≤ 1048576)
def OpenSpec.upto (s : _root_.Go.ChangeSpec) : _root_.Go.OpenSpec := { _root_.Go.OpenSpec.ofChange s with cond := some uptoSmall }

/-- 'conductorlaw11.TxnDoes', WHERE WHAT IT READS IS OF BULK AT MOST 1048576: true; the input reads as it did. -/
def txnDoesUptoRow : OpenClaim := { program := "ytdpbllacfljmoaagreat", sum := "9fee9998a9567fc56a7a766cfa183e72b25cc12aef45c619ada29b853337c064", func := "conductor/conductorlaw11.TxnDoes", spec := "txnDoes", inPlace := ["internal/bytealg.abigen_runtime_cmpstring"], unfollowed := true, recurses := true, apart := false, narrowed := true }
def TxnDoesUptoSaid : Prop := txnDoesUptoRow.holds Tryz.pinned (OpenSpec.upto txnDoesSpec)

/-- 'conductorlaw11.TxnSnapshots', WHERE WHAT IT READS IS OF BULK AT MOST 1048576: true; the input reads as it did. -/
def txnSnapshotsUptoRow : OpenClaim := { program := "ytdpbllacfljmoaagreat", sum := "9fee9998a9567fc56a7a766cfa183e72b25cc12aef45c619ada29b853337c064", func := "conductor/conductorlaw11.TxnSnapshots", spec := "txnSnapshots", inPlace := ["internal/bytealg.abigen_runtime_cmpstring"], unfollowed := true, recurses := true, apart := false, narrowed := true }
def TxnSnapshotsUptoSaid : Prop := txnSnapshotsUptoRow.holds Tryz.pinned (OpenSpec.upto txnSnapshotsSpec)

/-- 'conductorlaw11.TxnFirst', WHERE WHAT IT READS IS OF BULK AT MOST 1048576: true; the input reads as it did. -/
def txnFirstUptoRow : OpenClaim := { program := "ytdpbllacfljmoaagreat", sum := "9fee9998a9567fc56a7a766cfa183e72b25cc12aef45c619ada29b853337c064", func := "conductor/conductorlaw11.TxnFirst", spec := "txnFirst", inPlace := ["internal/bytealg.abigen_runtime_cmpstring"], unfollowed := true, recurses := true, apart := false, narrowed := true }
def TxnFirstUptoSaid : Prop := txnFirstUptoRow.holds Tryz.pinned (OpenSpec.upto txnFirstSpec)

/-- 'conductorlaw11.TxnAlone', WHERE WHAT IT READS IS OF BULK AT MOST 1048576: true; the input reads as it did. -/
def txnAloneUptoRow : OpenClaim := { program := "ytdpbllacfljmoaagreat", sum := "9fee9998a9567fc56a7a766cfa183e72b25cc12aef45c619ada29b853337c064", func := "conductor/conductorlaw11.TxnAlone", spec := "txnAlone", inPlace := ["internal/bytealg.abigen_runtime_cmpstring"], unfollowed := true, recurses := true, apart := false, narrowed := true }
def TxnAloneUptoSaid : Prop := txnAloneUptoRow.holds Tryz.pinned (OpenSpec.upto txnAloneSpec)

/-- 'conductorlaw11.TxnNoEffect', WHERE WHAT IT READS IS OF BULK AT MOST 1048576: true; the input reads as it did. -/
def txnNoEffectUptoRow : OpenClaim := { program := "ytdpbllacfljmoaagreat", sum := "9fee9998a9567fc56a7a766cfa183e72b25cc12aef45c619ada29b853337c064", func := "conductor/conductorlaw11.TxnNoEffect", spec := "txnNoEffect", inPlace := ["internal/bytealg.abigen_runtime_cmpstring"], unfollowed := true, recurses := true, apart := false, narrowed := true }
def TxnNoEffectUptoSaid : Prop := txnNoEffectUptoRow.holds Tryz.pinned (OpenSpec.upto txnNoEffectSpec)

/-- 'conductorlaw11.TxnUnseen', WHERE WHAT IT READS IS OF BULK AT MOST 1048576: true; the input reads as it did. -/
def txnUnseenUptoRow : OpenClaim := { program := "ytdpbllacfljmoaagreat", sum := "9fee9998a9567fc56a7a766cfa183e72b25cc12aef45c619ada29b853337c064", func := "conductor/conductorlaw11.TxnUnseen", spec := "txnUnseen", inPlace := ["internal/bytealg.abigen_runtime_cmpstring"], unfollowed := true, recurses := true, apart := false, narrowed := true }
def TxnUnseenUptoSaid : Prop := txnUnseenUptoRow.holds Tryz.pinned (OpenSpec.upto txnUnseenSpec)

/-- 'conductorlaw11.TxnLimits', WHERE WHAT IT READS IS OF BULK AT MOST 1048576: true; the input reads as it did. -/
def txnLimitsUptoRow : OpenClaim := { program := "ytdpbllacfljmoaagreat", sum := "9fee9998a9567fc56a7a766cfa183e72b25cc12aef45c619ada29b853337c064", func := "conductor/conductorlaw11.TxnLimits", spec := "txnLimits", inPlace := ["internal/bytealg.abigen_runtime_cmpstring"], unfollowed := true, recurses := true, apart := false, narrowed := true }
def TxnLimitsUptoSaid : Prop := txnLimitsUptoRow.holds Tryz.pinned (OpenSpec.upto txnLimitsSpec)

/-- 'conductorlaw11.TxnNone', WHERE WHAT IT READS IS OF BULK AT MOST 1048576: true; the input reads as it did. -/
def txnNoneUptoRow : OpenClaim := { program := "ytdpbllacfljmoaagreat", sum := "9fee9998a9567fc56a7a766cfa183e72b25cc12aef45c619ada29b853337c064", func := "conductor/conductorlaw11.TxnNone", spec := "txnNone", inPlace := ["internal/bytealg.abigen_runtime_cmpstring", "maps.clone"], unfollowed := true, recurses := true, apart := false, narrowed := true }
def TxnNoneUptoSaid : Prop := txnNoneUptoRow.holds Tryz.pinned (OpenSpec.upto txnNoneSpec)

/-- 'conductorlaw12.OrderSerial', WHERE WHAT IT READS IS OF BULK AT MOST 1048576: true; the input reads as it did. -/
def orderSerialUptoRow : OpenClaim := { program := "ytdpbllacfljmoaagreat", sum := "9fee9998a9567fc56a7a766cfa183e72b25cc12aef45c619ada29b853337c064", func := "conductor/conductorlaw12.OrderSerial", spec := "orderSerial", inPlace := ["internal/bytealg.abigen_runtime_cmpstring"], unfollowed := true, recurses := true, apart := false, narrowed := true }
def OrderSerialUptoSaid : Prop := orderSerialUptoRow.holds Tryz.pinned (OpenSpec.upto orderSerialSpec)

end Rows
end Go.Proofs.YtdpbllacfljmoaaGreat
