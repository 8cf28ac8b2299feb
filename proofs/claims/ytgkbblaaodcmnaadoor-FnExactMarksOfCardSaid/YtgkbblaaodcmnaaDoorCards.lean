/-
  DERIVED. GIVEN WITH THE SEED: THE CARDS: each row of YtgkbblaaodcmnaaDoorRows.lean that lists a variable, with what it lists TIED to the program's text (the seventh form; the later family's looks); each row that meets fmt, with fmt's text TOLD by the authors' own Lean function (tested against real Go, not proved from fmt's source: count such statements apart). THE CARD IS WHAT COUNTS. Prove the row's statement (the work); the ties are given (YtgkbblaaodcmnaaDoorTie.lean); close each card by the builder's one call (the guide's Derived/Test/ToyasCard.lean, 'card_holds'). Laid BY PROGRAM, IN A SANDBOX (cutbox-door.mjs). By AI agents, Wed Nov 11 2026. No macro, syntax, notation, axiom, sorry.
-/
import Derived.Test.YtgkbblaaodcmnaaDoorRows
import GoSem.ClaimSeven
namespace Go.Proofs.YtgkbblaaodcmnaaDoor
namespace Rows

/-- THE TIED CARD OF 'laws.FnExactMarksOf'. -/
def fnExactMarksOfCard : Claim7 := { stood := { row := fnExactMarksOfRow, standIns := [], harness := (true, "42a1542213fa17a2b4edd47ef98625f301371d324958fc12897797920ab2a7e4"), looks := false }, kinds := [], alts := [], laidByText := true, laidKinds := [.data, .data], laidTests := true, laidLooks := .later }
def FnExactMarksOfCardSaid : Prop := Claim7.holds Tryd.pinned (.plain (OpenSpec.ofChange fnExactMarksOfSpec)) fnExactMarksOfCard

/-- THE SECOND FORM's CARD OF 'laws.FnExactMarksOf'. -/
def fnExactMarksOfUptoCard : Claim7 := { stood := { row := fnExactMarksOfUptoRow, standIns := [], harness := (true, "42a1542213fa17a2b4edd47ef98625f301371d324958fc12897797920ab2a7e4"), looks := false }, kinds := [], alts := [], laidByText := true, laidKinds := [.data, .data], laidTests := true, laidLooks := .later }
def FnExactMarksOfUptoCardSaid : Prop := Claim7.holds Tryd.pinned (.plain (OpenSpec.upto fnExactMarksOfSpec)) fnExactMarksOfUptoCard
end Rows
end Go.Proofs.YtgkbblaaodcmnaaDoor
