/-
  No cell of these rows narrows 'for every input' (looked for: loops, veiled, ifaces, maps, wideKeys, modest, calm, conditions, laid).
  DERIVED. THE GIVEN ROWS OF THIS SEAT. 5 by the template 'for every input the law returns true; each argument reads behind the call as it read before'; 0 by the template 'total and deterministic' (their statements: YtjkmodfbbiojmaaTotals.lean).
  GIVEN WITH THE SEED: the statements are not yours to turn. If you find one false, say at which input.
  Laid BY PROGRAM, IN A SANDBOX (cutbox-rows.mjs): the forced cells as the released guide's own fill.sh prints them over the translation 4ad382d52cf26d38… (all of the seat's roots in one cut). By AI agents, Wed Nov 11 2026. No macro, syntax, notation, axiom, sorry.
-/
import Derived.Test.YtjkmodfbbiojmaaChecked
import GoSem.Claim
import GoSem.ClaimJoined
import GoSem.ClaimMapViews
import Derived.JoinedTies
import Derived.KernelRfl
namespace Go.Proofs.Ytjkmodfbbiojmaa
/- THE CELL 'sum', in the pinned program and in every row, IS THE sha256 OF THE DUMP (.gsa) THAT YtjkmodfbbiojmaaProg.lean LOADS. Nothing in Lean hashes anything: it is a label: what it is worth is what the hold of that sum in a sandbox is worth. -/
noncomputable def Try.pinned : Pinned := { name := "ytjkmodfbbiojmaa", sum := "4ad382d52cf26d38e954b262773afe031d74ab445f22a796b53dbb2ccc362c63", checked := Try.checked }
namespace Rows
def none {H : Type} : Left H := { results := [], args := [] }

/-- 'conductorlaw10.SsiJoins': WHATEVER THE INPUT: true; the input reads as it did. -/
def ssiJoinsSpec : ChangeSpec := { name := "ssiJoins", fn := fun _ => fun
  | [d1, d2, d3, d4, d5] => { results := [.lit (.bool true)], args := [d1, d2, d3, d4, d5] }
  | _ => none }
def ssiJoinsRow : OpenClaim := { program := "ytjkmodfbbiojmaa", sum := "4ad382d52cf26d38e954b262773afe031d74ab445f22a796b53dbb2ccc362c63", func := "conductor/conductorlaw10.SsiJoins", spec := "ssiJoins", inPlace := ["internal/bytealg.abigen_runtime_cmpstring"], unfollowed := true, recurses := true, apart := false }
def SsiJoinsSaid : Prop := ssiJoinsRow.holds Try.pinned (OpenSpec.ofChange ssiJoinsSpec)

/-- ITS FALSE NEIGHBOUR: 'it returns false'. Refute it at one input. -/
def ssiJoinsWrong : ChangeSpec := { name := "ssiJoins", fn := fun _ => fun
  | [d1, d2, d3, d4, d5] => { results := [.lit (.bool false)], args := [d1, d2, d3, d4, d5] }
  | _ => none }
def SsiJoinsWrongFalsely : Prop := ssiJoinsRow.holds Try.pinned (OpenSpec.ofChange ssiJoinsWrong)

/-- 'conductorlaw10.SsiNeverLess': WHATEVER THE INPUT: true; the input reads as it did. -/
def ssiNeverLessSpec : ChangeSpec := { name := "ssiNeverLess", fn := fun _ => fun
  | [d1, d2, d3, d4] => { results := [.lit (.bool true)], args := [d1, d2, d3, d4] }
  | _ => none }
def ssiNeverLessRow : OpenClaim := { program := "ytjkmodfbbiojmaa", sum := "4ad382d52cf26d38e954b262773afe031d74ab445f22a796b53dbb2ccc362c63", func := "conductor/conductorlaw10.SsiNeverLess", spec := "ssiNeverLess", inPlace := ["internal/bytealg.abigen_runtime_cmpstring"], unfollowed := true, recurses := true, apart := false }
def SsiNeverLessSaid : Prop := ssiNeverLessRow.holds Try.pinned (OpenSpec.ofChange ssiNeverLessSpec)

/-- ITS FALSE NEIGHBOUR: 'it returns false'. Refute it at one input. -/
def ssiNeverLessWrong : ChangeSpec := { name := "ssiNeverLess", fn := fun _ => fun
  | [d1, d2, d3, d4] => { results := [.lit (.bool false)], args := [d1, d2, d3, d4] }
  | _ => none }
def SsiNeverLessWrongFalsely : Prop := ssiNeverLessRow.holds Try.pinned (OpenSpec.ofChange ssiNeverLessWrong)

/-- 'conductorlaw10.SsiForgets': WHATEVER THE INPUT: true; the input reads as it did. -/
def ssiForgetsSpec : ChangeSpec := { name := "ssiForgets", fn := fun _ => fun
  | [d1, d2, d3] => { results := [.lit (.bool true)], args := [d1, d2, d3] }
  | _ => none }
def ssiForgetsRow : OpenClaim := { program := "ytjkmodfbbiojmaa", sum := "4ad382d52cf26d38e954b262773afe031d74ab445f22a796b53dbb2ccc362c63", func := "conductor/conductorlaw10.SsiForgets", spec := "ssiForgets", inPlace := ["internal/bytealg.abigen_runtime_cmpstring"], unfollowed := true, recurses := true, apart := false }
def SsiForgetsSaid : Prop := ssiForgetsRow.holds Try.pinned (OpenSpec.ofChange ssiForgetsSpec)

/-- ITS FALSE NEIGHBOUR: 'it returns false'. Refute it at one input. -/
def ssiForgetsWrong : ChangeSpec := { name := "ssiForgets", fn := fun _ => fun
  | [d1, d2, d3] => { results := [.lit (.bool false)], args := [d1, d2, d3] }
  | _ => none }
def SsiForgetsWrongFalsely : Prop := ssiForgetsRow.holds Try.pinned (OpenSpec.ofChange ssiForgetsWrong)

/-- 'conductorlaw10.SsiMore': WHATEVER THE INPUT: true; the input reads as it did. -/
def ssiMoreSpec : ChangeSpec := { name := "ssiMore", fn := fun _ => fun
  | [d1, d2, d3, d4] => { results := [.lit (.bool true)], args := [d1, d2, d3, d4] }
  | _ => none }
def ssiMoreRow : OpenClaim := { program := "ytjkmodfbbiojmaa", sum := "4ad382d52cf26d38e954b262773afe031d74ab445f22a796b53dbb2ccc362c63", func := "conductor/conductorlaw10.SsiMore", spec := "ssiMore", inPlace := ["internal/bytealg.abigen_runtime_cmpstring"], unfollowed := true, recurses := true, apart := false }
def SsiMoreSaid : Prop := ssiMoreRow.holds Try.pinned (OpenSpec.ofChange ssiMoreSpec)

/-- ITS FALSE NEIGHBOUR: 'it returns false'. Refute it at one input. -/
def ssiMoreWrong : ChangeSpec := { name := "ssiMore", fn := fun _ => fun
  | [d1, d2, d3, d4] => { results := [.lit (.bool false)], args := [d1, d2, d3, d4] }
  | _ => none }
def SsiMoreWrongFalsely : Prop := ssiMoreRow.holds Try.pinned (OpenSpec.ofChange ssiMoreWrong)

/-- 'conductorlaw10.SsiAlone': WHATEVER THE INPUT: true; the input reads as it did. -/
def ssiAloneSpec : ChangeSpec := { name := "ssiAlone", fn := fun _ => fun
  | [d1, d2] => { results := [.lit (.bool true)], args := [d1, d2] }
  | _ => none }
def ssiAloneRow : OpenClaim := { program := "ytjkmodfbbiojmaa", sum := "4ad382d52cf26d38e954b262773afe031d74ab445f22a796b53dbb2ccc362c63", func := "conductor/conductorlaw10.SsiAlone", spec := "ssiAlone", inPlace := ["internal/bytealg.abigen_runtime_cmpstring"], unfollowed := true, recurses := true, apart := false }
def SsiAloneSaid : Prop := ssiAloneRow.holds Try.pinned (OpenSpec.ofChange ssiAloneSpec)

/-- ITS FALSE NEIGHBOUR: 'it returns false'. Refute it at one input. -/
def ssiAloneWrong : ChangeSpec := { name := "ssiAlone", fn := fun _ => fun
  | [d1, d2] => { results := [.lit (.bool false)], args := [d1, d2] }
  | _ => none }
def SsiAloneWrongFalsely : Prop := ssiAloneRow.holds Try.pinned (OpenSpec.ofChange ssiAloneWrong)

/- THE SECOND FORM. 'bulk': how many values and letters a reading holds, each counted each time it is reached (what is shared counts as often as it is met; a slice's spare places count too). A statement '..UptoSaid' is the law's where the arguments, and the package variables that the reading takes, are together of bulk at most 1048576: NARROWER than '..Said'. Prove '..Said' where nothing that the law and all that it calls make is longer than what came in: it says more and counts as full. Else prove '..UptoSaid'. A law counts once. -/
mutual
def uptoBulk {H : Type} : DataW H → Nat
  | .lit (.string bytes) => bytes.length + 1
  | .lit _ => 1
  | .nil => 1
  | .ptr d => uptoBulk d + 1
  | .slice elems spare => uptoBulkAll elems + uptoBulkAll spare + 1
  | .agg parts => uptoBulkAll parts + 1
  | .iface _ d => uptoBulk d + 1
  | .map entries => uptoBulkEntries entries + 1
  | .held _ => 1
def uptoBulkAll {H : Type} : List (DataW H) → Nat
  | [] => 0
  | d :: r => uptoBulk d + uptoBulkAll r
def uptoBulkEntries {H : Type} : List (Lit × DataW H) → Nat
  | [] => 0
  | x :: r => uptoBulkEntry x + uptoBulkEntries r
def uptoBulkEntry {H : Type} : Lit × DataW H → Nat
  | (.string bytes, d) => bytes.length + uptoBulk d + 1
  | (_, d) => uptoBulk d + 1
 end
def uptoSmall : (H : Type) → List (DataW H) → Bool := fun _ ds => decide (uptoBulkAll ds ≤ 1048576)
def OpenSpec.upto (s : _root_.Go.ChangeSpec) : _root_.Go.OpenSpec := { _root_.Go.OpenSpec.ofChange s with cond := some uptoSmall }

/-- 'conductorlaw10.SsiJoins', WHERE WHAT IT READS IS OF BULK AT MOST 1048576: true; the input reads as it did. -/
def ssiJoinsUptoRow : OpenClaim := { program := "ytjkmodfbbiojmaa", sum := "4ad382d52cf26d38e954b262773afe031d74ab445f22a796b53dbb2ccc362c63", func := "conductor/conductorlaw10.SsiJoins", spec := "ssiJoins", inPlace := ["internal/bytealg.abigen_runtime_cmpstring"], unfollowed := true, recurses := true, apart := false, narrowed := true }
def SsiJoinsUptoSaid : Prop := ssiJoinsUptoRow.holds Try.pinned (OpenSpec.upto ssiJoinsSpec)

/-- 'conductorlaw10.SsiNeverLess', WHERE WHAT IT READS IS OF BULK AT MOST 1048576: true; the input reads as it did. -/
def ssiNeverLessUptoRow : OpenClaim := { program := "ytjkmodfbbiojmaa", sum := "4ad382d52cf26d38e954b262773afe031d74ab445f22a796b53dbb2ccc362c63", func := "conductor/conductorlaw10.SsiNeverLess", spec := "ssiNeverLess", inPlace := ["internal/bytealg.abigen_runtime_cmpstring"], unfollowed := true, recurses := true, apart := false, narrowed := true }
def SsiNeverLessUptoSaid : Prop := ssiNeverLessUptoRow.holds Try.pinned (OpenSpec.upto ssiNeverLessSpec)

/-- 'conductorlaw10.SsiForgets', WHERE WHAT IT READS IS OF BULK AT MOST 1048576: true; the input reads as it did. -/
def ssiForgetsUptoRow : OpenClaim := { program := "ytjkmodfbbiojmaa", sum := "4ad382d52cf26d38e954b262773afe031d74ab445f22a796b53dbb2ccc362c63", func := "conductor/conductorlaw10.SsiForgets", spec := "ssiForgets", inPlace := ["internal/bytealg.abigen_runtime_cmpstring"], unfollowed := true, recurses := true, apart := false, narrowed := true }
def SsiForgetsUptoSaid : Prop := ssiForgetsUptoRow.holds Try.pinned (OpenSpec.upto ssiForgetsSpec)

/-- 'conductorlaw10.SsiMore', WHERE WHAT IT READS IS OF BULK AT MOST 1048576: true; the input reads as it did. -/
def ssiMoreUptoRow : OpenClaim := { program := "ytjkmodfbbiojmaa", sum := "4ad382d52cf26d38e954b262773afe031d74ab445f22a796b53dbb2ccc362c63", func := "conductor/conductorlaw10.SsiMore", spec := "ssiMore", inPlace := ["internal/bytealg.abigen_runtime_cmpstring"], unfollowed := true, recurses := true, apart := false, narrowed := true }
def SsiMoreUptoSaid : Prop := ssiMoreUptoRow.holds Try.pinned (OpenSpec.upto ssiMoreSpec)

/-- 'conductorlaw10.SsiAlone', WHERE WHAT IT READS IS OF BULK AT MOST 1048576: true; the input reads as it did. -/
def ssiAloneUptoRow : OpenClaim := { program := "ytjkmodfbbiojmaa", sum := "4ad382d52cf26d38e954b262773afe031d74ab445f22a796b53dbb2ccc362c63", func := "conductor/conductorlaw10.SsiAlone", spec := "ssiAlone", inPlace := ["internal/bytealg.abigen_runtime_cmpstring"], unfollowed := true, recurses := true, apart := false, narrowed := true }
def SsiAloneUptoSaid : Prop := ssiAloneUptoRow.holds Try.pinned (OpenSpec.upto ssiAloneSpec)

end Rows
end Go.Proofs.Ytjkmodfbbiojmaa
