/-
  DERIVED. GIVEN WITH THE SEED: THE CARDS: each row of YtnpmacegdnnhdaaDoorRows.lean that lists a variable, with what it lists TIED to the program's text (the seventh form; the later family's looks); each row that meets fmt, with fmt's text TOLD by the authors' own Lean function (tested against real Go, not proved from fmt's source: count such statements apart). THE CARD IS WHAT COUNTS. Prove the row's statement (the work); the ties are given (YtnpmacegdnnhdaaDoorTie.lean); close each card by the builder's one call (the guide's Derived/Test/ToyasCard.lean, 'card_holds'). Laid BY PROGRAM, IN A SANDBOX (cutbox-door.mjs). By AI agents, Wed Nov 11 2026. No macro, syntax, notation, axiom, sorry.
-/
import Derived.Test.YtnpmacegdnnhdaaDoorRows
import GoSem.ClaimSeven
namespace Go.Proofs.YtnpmacegdnnhdaaDoor
namespace Rows

/-- THE TIED CARD OF 'laws.FnDecodeOps'. -/
def fnDecodeOpsCard : Claim7 := { stood := { row := fnDecodeOpsRow, standIns := [], harness := (true, "1f0031da56604c0cdab35b0a8e9011e22ca0f7a118d7c22185f6b14076fe342e"), looks := false }, kinds := [], alts := [], laidByText := true, laidKinds := [.data], laidTests := true, laidLooks := .later }
def FnDecodeOpsCardSaid : Prop := Claim7.holds Tryd.pinned (.plain (OpenSpec.ofChange fnDecodeOpsSpec)) fnDecodeOpsCard

/-- THE SECOND FORM's CARD OF 'laws.FnDecodeOps'. -/
def fnDecodeOpsUptoCard : Claim7 := { stood := { row := fnDecodeOpsUptoRow, standIns := [], harness := (true, "1f0031da56604c0cdab35b0a8e9011e22ca0f7a118d7c22185f6b14076fe342e"), looks := false }, kinds := [], alts := [], laidByText := true, laidKinds := [.data], laidTests := true, laidLooks := .later }
def FnDecodeOpsUptoCardSaid : Prop := Claim7.holds Tryd.pinned (.plain (OpenSpec.upto fnDecodeOpsSpec)) fnDecodeOpsUptoCard
end Rows
end Go.Proofs.YtnpmacegdnnhdaaDoor
