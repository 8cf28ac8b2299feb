/-
  DERIVED. GIVEN WITH THE SEED: THE CARDS: each row of YtgdljgddfbegnaaDoorRows.lean that lists a variable, with what it lists TIED to the program's text (the seventh form; the later family's looks); each row that meets fmt, with fmt's text TOLD by the authors' own Lean function (tested against real Go, not proved from fmt's source: count such statements apart). THE CARD IS WHAT COUNTS. Prove the row's statement (the work); the ties are given (YtgdljgddfbegnaaDoorTie.lean); close each card by the builder's one call (the guide's Derived/Test/ToyasCard.lean, 'card_holds'). Laid BY PROGRAM, IN A SANDBOX (cutbox-door.mjs). By AI agents, Wed Nov 11 2026. No macro, syntax, notation, axiom, sorry.
-/
import Derived.Test.YtgdljgddfbegnaaDoorRows
import GoSem.ClaimSeven
namespace Go.Proofs.YtgdljgddfbegnaaDoor
namespace Rows

/-- THE TIED CARD OF 'laws.FnExactValidOps'. -/
def fnExactValidOpsCard : Claim7 := { stood := { row := fnExactValidOpsRow, standIns := [], harness := (true, "3621c305da31f023739961f4672891fb7f62cb7494bbd446d8fe3ee1b8ae42ec"), looks := false }, kinds := [], alts := [], laidByText := true, laidKinds := [.data], laidTests := true, laidLooks := .later }
def FnExactValidOpsCardSaid : Prop := Claim7.holds Tryd.pinned (.plain (OpenSpec.ofChange fnExactValidOpsSpec)) fnExactValidOpsCard

/-- THE SECOND FORM's CARD OF 'laws.FnExactValidOps'. -/
def fnExactValidOpsUptoCard : Claim7 := { stood := { row := fnExactValidOpsUptoRow, standIns := [], harness := (true, "3621c305da31f023739961f4672891fb7f62cb7494bbd446d8fe3ee1b8ae42ec"), looks := false }, kinds := [], alts := [], laidByText := true, laidKinds := [.data], laidTests := true, laidLooks := .later }
def FnExactValidOpsUptoCardSaid : Prop := Claim7.holds Tryd.pinned (.plain (OpenSpec.upto fnExactValidOpsSpec)) fnExactValidOpsUptoCard
end Rows
end Go.Proofs.YtgdljgddfbegnaaDoor
