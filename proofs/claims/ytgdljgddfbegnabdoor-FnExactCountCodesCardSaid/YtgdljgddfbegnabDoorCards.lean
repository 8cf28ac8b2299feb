/-
  DERIVED. GIVEN WITH THE SEED: THE CARDS: each row of YtgdljgddfbegnabDoorRows.lean that lists a variable, with what it lists TIED to the program's text (the seventh form; the later family's looks); each row that meets fmt, with fmt's text TOLD by the authors' own Lean function (tested against real Go, not proved from fmt's source: count such statements apart). THE CARD IS WHAT COUNTS. Prove the row's statement (the work); the ties are given (YtgdljgddfbegnabDoorTie.lean); close each card by the builder's one call (the guide's Derived/Test/ToyasCard.lean, 'card_holds'). Laid BY PROGRAM, IN A SANDBOX (cutbox-door.mjs). By AI agents, Wed Nov 11 2026. No macro, syntax, notation, axiom, sorry.
-/
import Derived.Test.YtgdljgddfbegnabDoorRows
import GoSem.ClaimSeven
namespace Go.Proofs.YtgdljgddfbegnabDoor
namespace Rows

/-- THE TIED CARD OF 'laws.FnExactCountCodes'. -/
def fnExactCountCodesCard : Claim7 := { stood := { row := fnExactCountCodesRow, standIns := [], harness := (true, "46b7bce5c1b2ddc9f93fd5e1e6d3339bd2eeb741db7d2cc719729d4cb106f051"), looks := false }, kinds := [], alts := [], laidByText := true, laidKinds := [.data], laidTests := true, laidLooks := .later }
def FnExactCountCodesCardSaid : Prop := Claim7.holds Tryd.pinned (.plain (OpenSpec.ofChange fnExactCountCodesSpec)) fnExactCountCodesCard

/-- THE SECOND FORM's CARD OF 'laws.FnExactCountCodes'. -/
def fnExactCountCodesUptoCard : Claim7 := { stood := { row := fnExactCountCodesUptoRow, standIns := [], harness := (true, "46b7bce5c1b2ddc9f93fd5e1e6d3339bd2eeb741db7d2cc719729d4cb106f051"), looks := false }, kinds := [], alts := [], laidByText := true, laidKinds := [.data], laidTests := true, laidLooks := .later }
def FnExactCountCodesUptoCardSaid : Prop := Claim7.holds Tryd.pinned (.plain (OpenSpec.upto fnExactCountCodesSpec)) fnExactCountCodesUptoCard
end Rows
end Go.Proofs.YtgdljgddfbegnabDoor
