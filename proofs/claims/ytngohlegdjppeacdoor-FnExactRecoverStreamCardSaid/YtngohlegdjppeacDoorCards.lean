/-
  DERIVED. GIVEN WITH THE SEED: THE CARDS: each row of YtngohlegdjppeacDoorRows.lean that lists a variable, with what it lists TIED to the program's text (the seventh form; the later family's looks); each row that meets fmt, with fmt's text TOLD by the authors' own Lean function (tested against real Go, not proved from fmt's source: count such statements apart). THE CARD IS WHAT COUNTS. Prove the row's statement (the work); the ties are given (YtngohlegdjppeacDoorTie.lean); close each card by the builder's one call (the guide's Derived/Test/ToyasCard.lean, 'card_holds'). Laid BY PROGRAM, IN A SANDBOX (cutbox-door.mjs). By AI agents, Wed Nov 11 2026. No macro, syntax, notation, axiom, sorry.
-/
import Derived.Test.YtngohlegdjppeacDoorRows
import GoSem.ClaimSeven
namespace Go.Proofs.YtngohlegdjppeacDoor
namespace Rows

/-- THE TIED CARD OF 'laws.FnExactRecoverStream'. -/
def fnExactRecoverStreamCard : Claim7 := { stood := { row := fnExactRecoverStreamRow, standIns := [], harness := (true, "bfad6b65f6901c4c6960fbe26784639fb123342338e004da9e6455fb538685d4"), looks := false }, kinds := [], alts := [], laidByText := true, laidKinds := [.data], laidTests := true, laidLooks := .later }
def FnExactRecoverStreamCardSaid : Prop := Claim7.holds Tryd.pinned (.plain (OpenSpec.ofChange fnExactRecoverStreamSpec)) fnExactRecoverStreamCard

/-- THE SECOND FORM's CARD OF 'laws.FnExactRecoverStream'. -/
def fnExactRecoverStreamUptoCard : Claim7 := { stood := { row := fnExactRecoverStreamUptoRow, standIns := [], harness := (true, "bfad6b65f6901c4c6960fbe26784639fb123342338e004da9e6455fb538685d4"), looks := false }, kinds := [], alts := [], laidByText := true, laidKinds := [.data], laidTests := true, laidLooks := .later }
def FnExactRecoverStreamUptoCardSaid : Prop := Claim7.holds Tryd.pinned (.plain (OpenSpec.upto fnExactRecoverStreamSpec)) fnExactRecoverStreamUptoCard
end Rows
end Go.Proofs.YtngohlegdjppeacDoor
