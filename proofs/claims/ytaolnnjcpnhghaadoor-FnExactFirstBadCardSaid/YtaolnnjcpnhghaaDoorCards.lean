/-
  DERIVED. GIVEN WITH THE SEED: THE CARDS: each row of YtaolnnjcpnhghaaDoorRows.lean that lists a variable, with what it lists TIED to the program's text (the seventh form; the later family's looks); each row that meets fmt, with fmt's text TOLD by the authors' own Lean function (tested against real Go, not proved from fmt's source: count such statements apart). THE CARD IS WHAT COUNTS. Prove the row's statement (the work); the ties are given (YtaolnnjcpnhghaaDoorTie.lean); close each card by the builder's one call (the guide's Derived/Test/ToyasCard.lean, 'card_holds'). Laid BY PROGRAM, IN A SANDBOX (cutbox-door.mjs). By AI agents, Wed Nov 11 2026. No macro, syntax, notation, axiom, sorry.
-/
import Derived.Test.YtaolnnjcpnhghaaDoorRows
import GoSem.ClaimSeven
namespace Go.Proofs.YtaolnnjcpnhghaaDoor
namespace Rows

/-- THE TIED CARD OF 'laws.FnExactFirstBad'. -/
def fnExactFirstBadCard : Claim7 := { stood := { row := fnExactFirstBadRow, standIns := [], harness := (true, "59be424592c7174ff313eaba46b478cb842be0cd53e4cae305b8b1aa5b86f3de"), looks := false }, kinds := [], alts := [], laidByText := true, laidKinds := [.data, .data], laidTests := true, laidLooks := .later }
def FnExactFirstBadCardSaid : Prop := Claim7.holds Tryd.pinned (.plain (OpenSpec.ofChange fnExactFirstBadSpec)) fnExactFirstBadCard

/-- THE SECOND FORM's CARD OF 'laws.FnExactFirstBad'. -/
def fnExactFirstBadUptoCard : Claim7 := { stood := { row := fnExactFirstBadUptoRow, standIns := [], harness := (true, "59be424592c7174ff313eaba46b478cb842be0cd53e4cae305b8b1aa5b86f3de"), looks := false }, kinds := [], alts := [], laidByText := true, laidKinds := [.data, .data], laidTests := true, laidLooks := .later }
def FnExactFirstBadUptoCardSaid : Prop := Claim7.holds Tryd.pinned (.plain (OpenSpec.upto fnExactFirstBadSpec)) fnExactFirstBadUptoCard
end Rows
end Go.Proofs.YtaolnnjcpnhghaaDoor
