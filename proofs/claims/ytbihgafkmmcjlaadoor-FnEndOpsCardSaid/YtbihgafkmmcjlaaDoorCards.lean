/-
  DERIVED. GIVEN WITH THE SEED: THE CARDS: each row of YtbihgafkmmcjlaaDoorRows.lean that lists a variable, with what it lists TIED to the program's text (the seventh form; the later family's looks); each row that meets fmt, with fmt's text TOLD by the authors' own Lean function (tested against real Go, not proved from fmt's source: count such statements apart). THE CARD IS WHAT COUNTS. Prove the row's statement (the work); the ties are given (YtbihgafkmmcjlaaDoorTie.lean); close each card by the builder's one call (the guide's Derived/Test/ToyasCard.lean, 'card_holds'). Laid BY PROGRAM, IN A SANDBOX (cutbox-door.mjs). By AI agents, Wed Nov 11 2026. No macro, syntax, notation, axiom, sorry.
-/
import Derived.Test.YtbihgafkmmcjlaaDoorRows
import GoSem.ClaimSeven
namespace Go.Proofs.YtbihgafkmmcjlaaDoor
namespace Rows

/-- THE TIED CARD OF 'laws.FnEndOps'. -/
def fnEndOpsCard : Claim7 := { stood := { row := fnEndOpsRow, standIns := [], harness := (true, "092a4ecb3135808eb87bf93aa0e1fa6e04a345d9c67e548e0ae15ce82642564f"), looks := false }, kinds := [], alts := [], laidByText := true, laidKinds := [.data, .data], laidTests := true, laidLooks := .later }
def FnEndOpsCardSaid : Prop := Claim7.holds Tryd.pinned (.plain (OpenSpec.ofChange fnEndOpsSpec)) fnEndOpsCard

/-- THE SECOND FORM's CARD OF 'laws.FnEndOps'. -/
def fnEndOpsUptoCard : Claim7 := { stood := { row := fnEndOpsUptoRow, standIns := [], harness := (true, "092a4ecb3135808eb87bf93aa0e1fa6e04a345d9c67e548e0ae15ce82642564f"), looks := false }, kinds := [], alts := [], laidByText := true, laidKinds := [.data, .data], laidTests := true, laidLooks := .later }
def FnEndOpsUptoCardSaid : Prop := Claim7.holds Tryd.pinned (.plain (OpenSpec.upto fnEndOpsSpec)) fnEndOpsUptoCard
end Rows
end Go.Proofs.YtbihgafkmmcjlaaDoor
