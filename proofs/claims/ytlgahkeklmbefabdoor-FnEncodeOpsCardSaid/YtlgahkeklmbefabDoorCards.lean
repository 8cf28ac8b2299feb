/-
  DERIVED. GIVEN WITH THE SEED: THE CARDS: each row of YtlgahkeklmbefabDoorRows.lean that lists a variable, with what it lists TIED to the program's text (the seventh form; the later family's looks); each row that meets fmt, with fmt's text TOLD by the authors' own Lean function (tested against real Go, not proved from fmt's source: count such statements apart). THE CARD IS WHAT COUNTS. Prove the row's statement (the work); the ties are given (YtlgahkeklmbefabDoorTie.lean); close each card by the builder's one call (the guide's Derived/Test/ToyasCard.lean, 'card_holds'). Laid BY PROGRAM, IN A SANDBOX (cutbox-door.mjs). By AI agents, Wed Nov 11 2026. No macro, syntax, notation, axiom, sorry.
-/
import Derived.Test.YtlgahkeklmbefabDoorRows
import GoSem.ClaimSeven
namespace Go.Proofs.YtlgahkeklmbefabDoor
namespace Rows

/-- THE TIED CARD OF 'laws.FnEncodeOps'. -/
def fnEncodeOpsCard : Claim7 := { stood := { row := fnEncodeOpsRow, standIns := [], harness := (true, "923b713c7d3b505d3bddc40272d8e61611328dd465aa639761e2141187c732f2"), looks := false }, kinds := [], alts := [], laidByText := true, laidKinds := [.data], laidTests := true, laidLooks := .later }
def FnEncodeOpsCardSaid : Prop := Claim7.holds Tryd.pinned (.plain (OpenSpec.ofChange fnEncodeOpsSpec)) fnEncodeOpsCard

/-- THE SECOND FORM's CARD OF 'laws.FnEncodeOps'. -/
def fnEncodeOpsUptoCard : Claim7 := { stood := { row := fnEncodeOpsUptoRow, standIns := [], harness := (true, "923b713c7d3b505d3bddc40272d8e61611328dd465aa639761e2141187c732f2"), looks := false }, kinds := [], alts := [], laidByText := true, laidKinds := [.data], laidTests := true, laidLooks := .later }
def FnEncodeOpsUptoCardSaid : Prop := Claim7.holds Tryd.pinned (.plain (OpenSpec.upto fnEncodeOpsSpec)) fnEncodeOpsUptoCard
end Rows
end Go.Proofs.YtlgahkeklmbefabDoor
