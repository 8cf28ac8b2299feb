/-
  DERIVED. GIVEN WITH THE SEED: THE CARDS: each row of YtckodifdbephgaaDoorRows.lean that lists a variable, with what it lists TIED to the program's text (the seventh form; the later family's looks); each row that meets fmt, with fmt's text TOLD by the authors' own Lean function (tested against real Go, not proved from fmt's source: count such statements apart). THE CARD IS WHAT COUNTS. Prove the row's statement (the work); the ties are given (YtckodifdbephgaaDoorTie.lean); close each card by the builder's one call (the guide's Derived/Test/ToyasCard.lean, 'card_holds'). Laid BY PROGRAM, IN A SANDBOX (cutbox-door.mjs). By AI agents, Wed Nov 11 2026. No macro, syntax, notation, axiom, sorry.
-/
import Derived.Test.YtckodifdbephgaaDoorRows
import GoSem.ClaimSeven
namespace Go.Proofs.YtckodifdbephgaaDoor
namespace Rows

/-- THE TIED CARD OF 'laws.FnValidOps'. -/
def fnValidOpsCard : Claim7 := { stood := { row := fnValidOpsRow, standIns := [], harness := (true, "fea3de820c151d95a75c7edecfba983978f081b01fac3109d0c868ac3f10a5e3"), looks := false }, kinds := [], alts := [], laidByText := true, laidKinds := [.data], laidTests := true, laidLooks := .later }
def FnValidOpsCardSaid : Prop := Claim7.holds Tryd.pinned (.plain (OpenSpec.ofChange fnValidOpsSpec)) fnValidOpsCard

/-- THE SECOND FORM's CARD OF 'laws.FnValidOps'. -/
def fnValidOpsUptoCard : Claim7 := { stood := { row := fnValidOpsUptoRow, standIns := [], harness := (true, "fea3de820c151d95a75c7edecfba983978f081b01fac3109d0c868ac3f10a5e3"), looks := false }, kinds := [], alts := [], laidByText := true, laidKinds := [.data], laidTests := true, laidLooks := .later }
def FnValidOpsUptoCardSaid : Prop := Claim7.holds Tryd.pinned (.plain (OpenSpec.upto fnValidOpsSpec)) fnValidOpsUptoCard
end Rows
end Go.Proofs.YtckodifdbephgaaDoor
