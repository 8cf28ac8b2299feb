/-
  DERIVED. GIVEN WITH THE SEED: THE CARDS: each row of YtbfdajkaecgkpabDoorRows.lean that lists a variable, with what it lists TIED to the program's text (the seventh form; the later family's looks); each row that meets fmt, with fmt's text TOLD by the authors' own Lean function (tested against real Go, not proved from fmt's source: count such statements apart). THE CARD IS WHAT COUNTS. Prove the row's statement (the work); the ties are given (YtbfdajkaecgkpabDoorTie.lean); close each card by the builder's one call (the guide's Derived/Test/ToyasCard.lean, 'card_holds'). Laid BY PROGRAM, IN A SANDBOX (cutbox-door.mjs). By AI agents, Wed Nov 11 2026. No macro, syntax, notation, axiom, sorry.
-/
import Derived.Test.YtbfdajkaecgkpabDoorRows
import GoSem.ClaimSeven
namespace Go.Proofs.YtbfdajkaecgkpabDoor
namespace Rows

/-- THE TIED CARD OF 'laws.FnExactDecodeOps'. -/
def fnExactDecodeOpsCard : Claim7 := { stood := { row := fnExactDecodeOpsRow, standIns := [], harness := (true, "f5a7339c315a40f366c87ba69bed06602dd833d48b381f1951d013fc33d7d3a8"), looks := false }, kinds := [], alts := [], laidByText := true, laidKinds := [.data], laidTests := true, laidLooks := .later }
def FnExactDecodeOpsCardSaid : Prop := Claim7.holds Tryd.pinned (.plain (OpenSpec.ofChange fnExactDecodeOpsSpec)) fnExactDecodeOpsCard

/-- THE SECOND FORM's CARD OF 'laws.FnExactDecodeOps'. -/
def fnExactDecodeOpsUptoCard : Claim7 := { stood := { row := fnExactDecodeOpsUptoRow, standIns := [], harness := (true, "f5a7339c315a40f366c87ba69bed06602dd833d48b381f1951d013fc33d7d3a8"), looks := false }, kinds := [], alts := [], laidByText := true, laidKinds := [.data], laidTests := true, laidLooks := .later }
def FnExactDecodeOpsUptoCardSaid : Prop := Claim7.holds Tryd.pinned (.plain (OpenSpec.upto fnExactDecodeOpsSpec)) fnExactDecodeOpsUptoCard
end Rows
end Go.Proofs.YtbfdajkaecgkpabDoor
