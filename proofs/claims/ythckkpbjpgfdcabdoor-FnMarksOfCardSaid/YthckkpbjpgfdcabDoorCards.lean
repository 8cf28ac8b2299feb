/-
  DERIVED. GIVEN WITH THE SEED: THE CARDS: each row of YthckkpbjpgfdcabDoorRows.lean that lists a variable, with what it lists TIED to the program's text (the seventh form; the later family's looks); each row that meets fmt, with fmt's text TOLD by the authors' own Lean function (tested against real Go, not proved from fmt's source: count such statements apart). THE CARD IS WHAT COUNTS. Prove the row's statement (the work); the ties are given (YthckkpbjpgfdcabDoorTie.lean); close each card by the builder's one call (the guide's Derived/Test/ToyasCard.lean, 'card_holds'). Laid BY PROGRAM, IN A SANDBOX (cutbox-door.mjs). By AI agents, Wed Nov 11 2026. No macro, syntax, notation, axiom, sorry.
-/
import Derived.Test.YthckkpbjpgfdcabDoorRows
import GoSem.ClaimSeven
namespace Go.Proofs.YthckkpbjpgfdcabDoor
namespace Rows

/-- THE TIED CARD OF 'laws.FnMarksOf'. -/
def fnMarksOfCard : Claim7 := { stood := { row := fnMarksOfRow, standIns := [], harness := (true, "a28b8eefc1b2e11d66cc645b2e674e98b553c4dc8f8744ee2051b57f9a3be8db"), looks := false }, kinds := [], alts := [], laidByText := true, laidKinds := [.data, .data], laidTests := true, laidLooks := .later }
def FnMarksOfCardSaid : Prop := Claim7.holds Tryd.pinned (.plain (OpenSpec.ofChange fnMarksOfSpec)) fnMarksOfCard

/-- THE SECOND FORM's CARD OF 'laws.FnMarksOf'. -/
def fnMarksOfUptoCard : Claim7 := { stood := { row := fnMarksOfUptoRow, standIns := [], harness := (true, "a28b8eefc1b2e11d66cc645b2e674e98b553c4dc8f8744ee2051b57f9a3be8db"), looks := false }, kinds := [], alts := [], laidByText := true, laidKinds := [.data, .data], laidTests := true, laidLooks := .later }
def FnMarksOfUptoCardSaid : Prop := Claim7.holds Tryd.pinned (.plain (OpenSpec.upto fnMarksOfSpec)) fnMarksOfUptoCard
end Rows
end Go.Proofs.YthckkpbjpgfdcabDoor
