/-
  DERIVED. GIVEN WITH THE SEED: THE CARDS: each row of YtbfdajkaecgkpaaDoorRows.lean that lists a variable, with what it lists TIED to the program's text (the seventh form; the later family's looks); each row that meets fmt, with fmt's text TOLD by the authors' own Lean function (tested against real Go, not proved from fmt's source: count such statements apart). THE CARD IS WHAT COUNTS. Prove the row's statement (the work); the ties are given (YtbfdajkaecgkpaaDoorTie.lean); close each card by the builder's one call (the guide's Derived/Test/ToyasCard.lean, 'card_holds'). Laid BY PROGRAM, IN A SANDBOX (cutbox-door.mjs). By AI agents, Wed Nov 11 2026. No macro, syntax, notation, axiom, sorry.
-/
import Derived.Test.YtbfdajkaecgkpaaDoorRows
import GoSem.ClaimSeven
namespace Go.Proofs.YtbfdajkaecgkpaaDoor
namespace Rows

/-- THE TIED CARD OF 'laws.FnExactDecodeTorn'. -/
def fnExactDecodeTornCard : Claim7 := { stood := { row := fnExactDecodeTornRow, standIns := [], harness := (true, "7533c566a9f095c35c50378d9df18df95186fab2208ba2ca7e4e4070996e83fd"), looks := false }, kinds := [], alts := [], laidByText := true, laidKinds := [.data], laidTests := true, laidLooks := .later }
def FnExactDecodeTornCardSaid : Prop := Claim7.holds Tryd.pinned (.plain (OpenSpec.ofChange fnExactDecodeTornSpec)) fnExactDecodeTornCard

/-- THE SECOND FORM's CARD OF 'laws.FnExactDecodeTorn'. -/
def fnExactDecodeTornUptoCard : Claim7 := { stood := { row := fnExactDecodeTornUptoRow, standIns := [], harness := (true, "7533c566a9f095c35c50378d9df18df95186fab2208ba2ca7e4e4070996e83fd"), looks := false }, kinds := [], alts := [], laidByText := true, laidKinds := [.data], laidTests := true, laidLooks := .later }
def FnExactDecodeTornUptoCardSaid : Prop := Claim7.holds Tryd.pinned (.plain (OpenSpec.upto fnExactDecodeTornSpec)) fnExactDecodeTornUptoCard
end Rows
end Go.Proofs.YtbfdajkaecgkpaaDoor
