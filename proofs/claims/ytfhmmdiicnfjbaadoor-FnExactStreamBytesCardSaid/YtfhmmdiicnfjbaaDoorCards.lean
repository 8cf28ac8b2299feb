/-
  DERIVED. GIVEN WITH THE SEED: THE CARDS: each row of YtfhmmdiicnfjbaaDoorRows.lean that lists a variable, with what it lists TIED to the program's text (the seventh form; the later family's looks); each row that meets fmt, with fmt's text TOLD by the authors' own Lean function (tested against real Go, not proved from fmt's source: count such statements apart). THE CARD IS WHAT COUNTS. Prove the row's statement (the work); the ties are given (YtfhmmdiicnfjbaaDoorTie.lean); close each card by the builder's one call (the guide's Derived/Test/ToyasCard.lean, 'card_holds'). Laid BY PROGRAM, IN A SANDBOX (cutbox-door.mjs). By AI agents, Wed Nov 11 2026. No macro, syntax, notation, axiom, sorry.
-/
import Derived.Test.YtfhmmdiicnfjbaaDoorRows
import GoSem.ClaimSeven
namespace Go.Proofs.YtfhmmdiicnfjbaaDoor
namespace Rows

/-- THE TIED CARD OF 'laws.FnExactStreamBytes'. -/
def fnExactStreamBytesCard : Claim7 := { stood := { row := fnExactStreamBytesRow, standIns := [], harness := (true, "6c257f5118941e6c13aaf35625cdc56cbb21c6b5f72351c69a8b9e3044860a5b"), looks := false }, kinds := [], alts := [], laidByText := true, laidKinds := [.data], laidTests := true, laidLooks := .later }
def FnExactStreamBytesCardSaid : Prop := Claim7.holds Tryd.pinned (.plain (OpenSpec.ofChange fnExactStreamBytesSpec)) fnExactStreamBytesCard

/-- THE SECOND FORM's CARD OF 'laws.FnExactStreamBytes'. -/
def fnExactStreamBytesUptoCard : Claim7 := { stood := { row := fnExactStreamBytesUptoRow, standIns := [], harness := (true, "6c257f5118941e6c13aaf35625cdc56cbb21c6b5f72351c69a8b9e3044860a5b"), looks := false }, kinds := [], alts := [], laidByText := true, laidKinds := [.data], laidTests := true, laidLooks := .later }
def FnExactStreamBytesUptoCardSaid : Prop := Claim7.holds Tryd.pinned (.plain (OpenSpec.upto fnExactStreamBytesSpec)) fnExactStreamBytesUptoCard
end Rows
end Go.Proofs.YtfhmmdiicnfjbaaDoor
