/-
  DERIVED. GIVEN WITH THE SEED: THE CARDS: each row of YtfigekdejocakaaDoorRows.lean that lists a variable, with what it lists TIED to the program's text (the seventh form; the later family's looks); each row that meets fmt, with fmt's text TOLD by the authors' own Lean function (tested against real Go, not proved from fmt's source: count such statements apart). THE CARD IS WHAT COUNTS. Prove the row's statement (the work); the ties are given (YtfigekdejocakaaDoorTie.lean); close each card by the builder's one call (the guide's Derived/Test/ToyasCard.lean, 'card_holds'). Laid BY PROGRAM, IN A SANDBOX (cutbox-door.mjs). By AI agents, Wed Nov 11 2026. No macro, syntax, notation, axiom, sorry.
-/
import Derived.Test.YtfigekdejocakaaDoorRows
import GoSem.ClaimSeven
namespace Go.Proofs.YtfigekdejocakaaDoor
namespace Rows

/-- THE TIED CARD OF 'laws.FnIsShort'. -/
def fnIsShortCard : Claim7 := { stood := { row := fnIsShortRow, standIns := [], harness := (true, "2dfbd58ccf22d5db3b6bc07a5a0c0ca4c31c230e79e7baec1e6a403585722d80"), looks := false }, kinds := [], alts := [], laidByText := true, laidKinds := [.data], laidTests := true, laidLooks := .later }
def FnIsShortCardSaid : Prop := Claim7.holds Tryd.pinned (.plain (OpenSpec.ofChange fnIsShortSpec)) fnIsShortCard

/-- THE SECOND FORM's CARD OF 'laws.FnIsShort'. -/
def fnIsShortUptoCard : Claim7 := { stood := { row := fnIsShortUptoRow, standIns := [], harness := (true, "2dfbd58ccf22d5db3b6bc07a5a0c0ca4c31c230e79e7baec1e6a403585722d80"), looks := false }, kinds := [], alts := [], laidByText := true, laidKinds := [.data], laidTests := true, laidLooks := .later }
def FnIsShortUptoCardSaid : Prop := Claim7.holds Tryd.pinned (.plain (OpenSpec.upto fnIsShortSpec)) fnIsShortUptoCard
end Rows
end Go.Proofs.YtfigekdejocakaaDoor
