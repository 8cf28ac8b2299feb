/-
  DERIVED. GIVEN WITH THE SEED: THE CARDS: each row of YtgjokdfjngpmcaaDoorRows.lean that lists a variable, with what it lists TIED to the program's text (the seventh form; the later family's looks); each row that meets fmt, with fmt's text TOLD by the authors' own Lean function (tested against real Go, not proved from fmt's source: count such statements apart). THE CARD IS WHAT COUNTS. Prove the row's statement (the work); the ties are given (YtgjokdfjngpmcaaDoorTie.lean); close each card by the builder's one call (the guide's Derived/Test/ToyasCard.lean, 'card_holds'). Laid BY PROGRAM, IN A SANDBOX (cutbox-door.mjs). By AI agents, Wed Nov 11 2026. No macro, syntax, notation, axiom, sorry.
-/
import Derived.Test.YtgjokdfjngpmcaaDoorRows
import GoSem.ClaimSeven
namespace Go.Proofs.YtgjokdfjngpmcaaDoor
namespace Rows

/-- THE TIED CARD OF 'laws.FnExactCutOps'. -/
def fnExactCutOpsCard : Claim7 := { stood := { row := fnExactCutOpsRow, standIns := [], harness := (true, "1eca0928a9553b62469a8b651cab80ec421bbc6a3193e78f3dd128207ec3ca31"), looks := false }, kinds := [], alts := [], laidByText := true, laidKinds := [.data, .data], laidTests := true, laidLooks := .later }
def FnExactCutOpsCardSaid : Prop := Claim7.holds Tryd.pinned (.plain (OpenSpec.ofChange fnExactCutOpsSpec)) fnExactCutOpsCard

/-- THE SECOND FORM's CARD OF 'laws.FnExactCutOps'. -/
def fnExactCutOpsUptoCard : Claim7 := { stood := { row := fnExactCutOpsUptoRow, standIns := [], harness := (true, "1eca0928a9553b62469a8b651cab80ec421bbc6a3193e78f3dd128207ec3ca31"), looks := false }, kinds := [], alts := [], laidByText := true, laidKinds := [.data, .data], laidTests := true, laidLooks := .later }
def FnExactCutOpsUptoCardSaid : Prop := Claim7.holds Tryd.pinned (.plain (OpenSpec.upto fnExactCutOpsSpec)) fnExactCutOpsUptoCard
end Rows
end Go.Proofs.YtgjokdfjngpmcaaDoor
