/-
  DERIVED. GIVEN WITH THE SEED: THE CARDS: each row of YtngohlegdjppeaaDoorRows.lean that lists a variable, with what it lists TIED to the program's text (the seventh form; the later family's looks); each row that meets fmt, with fmt's text TOLD by the authors' own Lean function (tested against real Go, not proved from fmt's source: count such statements apart). THE CARD IS WHAT COUNTS. Prove the row's statement (the work); the ties are given (YtngohlegdjppeaaDoorTie.lean); close each card by the builder's one call (the guide's Derived/Test/ToyasCard.lean, 'card_holds'). Laid BY PROGRAM, IN A SANDBOX (cutbox-door.mjs). By AI agents, Wed Nov 11 2026. No macro, syntax, notation, axiom, sorry.
-/
import Derived.Test.YtngohlegdjppeaaDoorRows
import GoSem.ClaimSeven
namespace Go.Proofs.YtngohlegdjppeaaDoor
namespace Rows

/-- THE TIED CARD OF 'laws.FnExactEndOps'. -/
def fnExactEndOpsCard : Claim7 := { stood := { row := fnExactEndOpsRow, standIns := [], harness := (true, "479251b149b32e834546a6994504582ce1fb720aec10d7bc1b355b0776725adc"), looks := false }, kinds := [], alts := [], laidByText := true, laidKinds := [.data, .data], laidTests := true, laidLooks := .later }
def FnExactEndOpsCardSaid : Prop := Claim7.holds Tryd.pinned (.plain (OpenSpec.ofChange fnExactEndOpsSpec)) fnExactEndOpsCard

/-- THE SECOND FORM's CARD OF 'laws.FnExactEndOps'. -/
def fnExactEndOpsUptoCard : Claim7 := { stood := { row := fnExactEndOpsUptoRow, standIns := [], harness := (true, "479251b149b32e834546a6994504582ce1fb720aec10d7bc1b355b0776725adc"), looks := false }, kinds := [], alts := [], laidByText := true, laidKinds := [.data, .data], laidTests := true, laidLooks := .later }
def FnExactEndOpsUptoCardSaid : Prop := Claim7.holds Tryd.pinned (.plain (OpenSpec.upto fnExactEndOpsSpec)) fnExactEndOpsUptoCard
end Rows
end Go.Proofs.YtngohlegdjppeaaDoor
