/-
  DERIVED. GIVEN WITH THE SEED: THE CARDS: each row of YtilopekdeehaoacDoorRows.lean that lists a variable, with what it lists TIED to the program's text (the seventh form; the later family's looks); each row that meets fmt, with fmt's text TOLD by the authors' own Lean function (tested against real Go, not proved from fmt's source: count such statements apart). THE CARD IS WHAT COUNTS. Prove the row's statement (the work); the ties are given (YtilopekdeehaoacDoorTie.lean); close each card by the builder's one call (the guide's Derived/Test/ToyasCard.lean, 'card_holds'). Laid BY PROGRAM, IN A SANDBOX (cutbox-door.mjs). By AI agents, Wed Nov 11 2026. No macro, syntax, notation, axiom, sorry.
-/
import Derived.Test.YtilopekdeehaoacDoorRows
import GoSem.ClaimSeven
namespace Go.Proofs.YtilopekdeehaoacDoor
namespace Rows

/-- THE TIED CARD OF 'laws.FnExactDepthsOf'. -/
def fnExactDepthsOfCard : Claim7 := { stood := { row := fnExactDepthsOfRow, standIns := [], harness := (true, "749eef49c6c795644f209f97d56274ada12897fe33c9b6b41f1c79201ca7fd3c"), looks := false }, kinds := [], alts := [], laidByText := true, laidKinds := [.data, .data], laidTests := true, laidLooks := .later }
def FnExactDepthsOfCardSaid : Prop := Claim7.holds Tryd.pinned (.plain (OpenSpec.ofChange fnExactDepthsOfSpec)) fnExactDepthsOfCard

/-- THE SECOND FORM's CARD OF 'laws.FnExactDepthsOf'. -/
def fnExactDepthsOfUptoCard : Claim7 := { stood := { row := fnExactDepthsOfUptoRow, standIns := [], harness := (true, "749eef49c6c795644f209f97d56274ada12897fe33c9b6b41f1c79201ca7fd3c"), looks := false }, kinds := [], alts := [], laidByText := true, laidKinds := [.data, .data], laidTests := true, laidLooks := .later }
def FnExactDepthsOfUptoCardSaid : Prop := Claim7.holds Tryd.pinned (.plain (OpenSpec.upto fnExactDepthsOfSpec)) fnExactDepthsOfUptoCard
end Rows
end Go.Proofs.YtilopekdeehaoacDoor
