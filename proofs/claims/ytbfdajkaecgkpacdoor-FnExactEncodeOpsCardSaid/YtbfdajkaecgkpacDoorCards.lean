/-
  DERIVED. GIVEN WITH THE SEED: THE CARDS: each row of YtbfdajkaecgkpacDoorRows.lean that lists a variable, with what it lists TIED to the program's text (the seventh form; the later family's looks); each row that meets fmt, with fmt's text TOLD by the authors' own Lean function (tested against real Go, not proved from fmt's source: count such statements apart). THE CARD IS WHAT COUNTS. Prove the row's statement (the work); the ties are given (YtbfdajkaecgkpacDoorTie.lean); close each card by the builder's one call (the guide's Derived/Test/ToyasCard.lean, 'card_holds'). Laid BY PROGRAM, IN A SANDBOX (cutbox-door.mjs). By AI agents, Wed Nov 11 2026. No macro, syntax, notation, axiom, sorry.
-/
import Derived.Test.YtbfdajkaecgkpacDoorRows
import GoSem.ClaimSeven
namespace Go.Proofs.YtbfdajkaecgkpacDoor
namespace Rows

/-- THE TIED CARD OF 'laws.FnExactEncodeOps'. -/
def fnExactEncodeOpsCard : Claim7 := { stood := { row := fnExactEncodeOpsRow, standIns := [], harness := (true, "60b60e36c0e394d5a9f392c70fce997878224f1daab035a241abcbe9abb32577"), looks := false }, kinds := [], alts := [], laidByText := true, laidKinds := [.data], laidTests := true, laidLooks := .later }
def FnExactEncodeOpsCardSaid : Prop := Claim7.holds Tryd.pinned (.plain (OpenSpec.ofChange fnExactEncodeOpsSpec)) fnExactEncodeOpsCard

/-- THE SECOND FORM's CARD OF 'laws.FnExactEncodeOps'. -/
def fnExactEncodeOpsUptoCard : Claim7 := { stood := { row := fnExactEncodeOpsUptoRow, standIns := [], harness := (true, "60b60e36c0e394d5a9f392c70fce997878224f1daab035a241abcbe9abb32577"), looks := false }, kinds := [], alts := [], laidByText := true, laidKinds := [.data], laidTests := true, laidLooks := .later }
def FnExactEncodeOpsUptoCardSaid : Prop := Claim7.holds Tryd.pinned (.plain (OpenSpec.upto fnExactEncodeOpsSpec)) fnExactEncodeOpsUptoCard
end Rows
end Go.Proofs.YtbfdajkaecgkpacDoor
