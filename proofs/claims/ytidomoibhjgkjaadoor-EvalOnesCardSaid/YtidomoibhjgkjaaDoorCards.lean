/-
  DERIVED. GIVEN WITH THE SEED: THE CARDS: each row of YtidomoibhjgkjaaDoorRows.lean that lists a variable, with what it lists TIED to the program's text (the seventh form; the later family's looks); each row that meets fmt, with fmt's text TOLD by the authors' own Lean function (tested against real Go, not proved from fmt's source: count such statements apart). THE CARD IS WHAT COUNTS. Prove the row's statement (the work); the ties are given (YtidomoibhjgkjaaDoorTie.lean); close each card by the builder's one call (the guide's Derived/Test/ToyasCard.lean, 'card_holds'). Laid BY PROGRAM, IN A SANDBOX (cutbox-door.mjs). By AI agents, Wed Nov 11 2026. No macro, syntax, notation, axiom, sorry.
-/
import Derived.Test.YtidomoibhjgkjaaDoorRows
import GoSem.ClaimSeven
namespace Go.Proofs.YtidomoibhjgkjaaDoor
namespace Rows

/-- THE TIED CARD OF 'conductorlaw06.EvalOnes'. -/
def evalOnesCard : Claim7 := { stood := { row := evalOnesRow, standIns := [], harness := (true, "83fdaa7abc4e092f10cbe4fdd8f596f393cfe45f59fbb4894e1825305bd61b06"), looks := true }, kinds := [], alts := [], laidByText := true, laidKinds := [.handle], laidTests := true, laidLooks := .later }
def EvalOnesCardSaid : Prop := Claim7.holds Tryd.pinned (.plain (OpenSpec.ofChange evalOnesSpec)) evalOnesCard

/-- THE TIED CARD OF 'conductorlaw06.EvalTwos'. -/
def evalTwosCard : Claim7 := { stood := { row := evalTwosRow, standIns := [], harness := (true, "83fdaa7abc4e092f10cbe4fdd8f596f393cfe45f59fbb4894e1825305bd61b06"), looks := true }, kinds := [], alts := [], laidByText := true, laidKinds := [.handle], laidTests := true, laidLooks := .later }
def EvalTwosCardSaid : Prop := Claim7.holds Tryd.pinned (.plain (OpenSpec.ofChange evalTwosSpec)) evalTwosCard

/-- THE TIED CARD OF 'conductorlaw06.EvalNumbers'. -/
def evalNumbersCard : Claim7 := { stood := { row := evalNumbersRow, standIns := [], harness := (true, "83fdaa7abc4e092f10cbe4fdd8f596f393cfe45f59fbb4894e1825305bd61b06"), looks := true }, kinds := [], alts := [], laidByText := true, laidKinds := [.handle], laidTests := true, laidLooks := .later }
def EvalNumbersCardSaid : Prop := Claim7.holds Tryd.pinned (.plain (OpenSpec.ofChange evalNumbersSpec)) evalNumbersCard

/-- THE SECOND FORM's CARD OF 'conductorlaw06.EvalOnes'. -/
def evalOnesUptoCard : Claim7 := { stood := { row := evalOnesUptoRow, standIns := [], harness := (true, "83fdaa7abc4e092f10cbe4fdd8f596f393cfe45f59fbb4894e1825305bd61b06"), looks := true }, kinds := [], alts := [], laidByText := true, laidKinds := [.handle], laidTests := true, laidLooks := .later }
def EvalOnesUptoCardSaid : Prop := Claim7.holds Tryd.pinned (.plain (OpenSpec.upto evalOnesSpec)) evalOnesUptoCard

/-- THE SECOND FORM's CARD OF 'conductorlaw06.EvalTwos'. -/
def evalTwosUptoCard : Claim7 := { stood := { row := evalTwosUptoRow, standIns := [], harness := (true, "83fdaa7abc4e092f10cbe4fdd8f596f393cfe45f59fbb4894e1825305bd61b06"), looks := true }, kinds := [], alts := [], laidByText := true, laidKinds := [.handle], laidTests := true, laidLooks := .later }
def EvalTwosUptoCardSaid : Prop := Claim7.holds Tryd.pinned (.plain (OpenSpec.upto evalTwosSpec)) evalTwosUptoCard

/-- THE SECOND FORM's CARD OF 'conductorlaw06.EvalNumbers'. -/
def evalNumbersUptoCard : Claim7 := { stood := { row := evalNumbersUptoRow, standIns := [], harness := (true, "83fdaa7abc4e092f10cbe4fdd8f596f393cfe45f59fbb4894e1825305bd61b06"), looks := true }, kinds := [], alts := [], laidByText := true, laidKinds := [.handle], laidTests := true, laidLooks := .later }
def EvalNumbersUptoCardSaid : Prop := Claim7.holds Tryd.pinned (.plain (OpenSpec.upto evalNumbersSpec)) evalNumbersUptoCard
end Rows
end Go.Proofs.YtidomoibhjgkjaaDoor
