/-
  DERIVED. GIVEN WITH THE SEED: THE CARDS: each row of YtmilbhhlbjcodaaDoorRows.lean that lists a variable, with what it lists TIED to the program's text (the seventh form; the later family's looks); each row that meets fmt, with fmt's text TOLD by the authors' own Lean function (tested against real Go, not proved from fmt's source: count such statements apart). THE CARD IS WHAT COUNTS. Prove the row's statement (the work); the ties are given (YtmilbhhlbjcodaaDoorTie.lean); close each card by the builder's one call (the guide's Derived/Test/ToyasCard.lean, 'card_holds'). Laid BY PROGRAM, IN A SANDBOX (cutbox-door.mjs). By AI agents, Wed Nov 11 2026. No macro, syntax, notation, axiom, sorry.
-/
import Derived.Test.YtmilbhhlbjcodaaDoorRows
import GoSem.ClaimSeven
namespace Go.Proofs.YtmilbhhlbjcodaaDoor
namespace Rows

/-- THE TIED CARD OF 'laws.FnDecodeTorn'. -/
def fnDecodeTornCard : Claim7 := { stood := { row := fnDecodeTornRow, standIns := [], harness := (true, "61b2f85d364ae066b7885478cc5c1701e0aa8db03cb1fd73231885516cb96dab"), looks := false }, kinds := [], alts := [], laidByText := true, laidKinds := [.data], laidTests := true, laidLooks := .later }
def FnDecodeTornCardSaid : Prop := Claim7.holds Tryd.pinned (.plain (OpenSpec.ofChange fnDecodeTornSpec)) fnDecodeTornCard

/-- THE SECOND FORM's CARD OF 'laws.FnDecodeTorn'. -/
def fnDecodeTornUptoCard : Claim7 := { stood := { row := fnDecodeTornUptoRow, standIns := [], harness := (true, "61b2f85d364ae066b7885478cc5c1701e0aa8db03cb1fd73231885516cb96dab"), looks := false }, kinds := [], alts := [], laidByText := true, laidKinds := [.data], laidTests := true, laidLooks := .later }
def FnDecodeTornUptoCardSaid : Prop := Claim7.holds Tryd.pinned (.plain (OpenSpec.upto fnDecodeTornSpec)) fnDecodeTornUptoCard
end Rows
end Go.Proofs.YtmilbhhlbjcodaaDoor
