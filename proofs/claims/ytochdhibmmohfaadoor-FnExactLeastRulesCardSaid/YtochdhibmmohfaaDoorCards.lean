/-
  DERIVED. GIVEN WITH THE SEED: THE CARDS: each row of YtochdhibmmohfaaDoorRows.lean that lists a variable, with what it lists TIED to the program's text (the seventh form; the later family's looks); each row that meets fmt, with fmt's text TOLD by the authors' own Lean function (tested against real Go, not proved from fmt's source: count such statements apart). THE CARD IS WHAT COUNTS. Prove the row's statement (the work); the ties are given (YtochdhibmmohfaaDoorTie.lean); close each card by the builder's one call (the guide's Derived/Test/ToyasCard.lean, 'card_holds'). Laid BY PROGRAM, IN A SANDBOX (cutbox-door.mjs). By AI agents, Wed Nov 11 2026. No macro, syntax, notation, axiom, sorry.
-/
import Derived.Test.YtochdhibmmohfaaDoorRows
import GoSem.ClaimSeven
namespace Go.Proofs.YtochdhibmmohfaaDoor
namespace Rows

/-- THE TIED CARD OF 'laws.FnExactLeastRules'. -/
def fnExactLeastRulesCard : Claim7 := { stood := { row := fnExactLeastRulesRow, standIns := [], harness := (true, "67cfd61aac4e7a5047e9a2ccc8aa48c3cb151aa5da32446fed4fad0f7e597975"), looks := false }, kinds := [], alts := [], laidByText := true, laidKinds := [.data, .data], laidTests := true, laidLooks := .later }
def FnExactLeastRulesCardSaid : Prop := Claim7.holds Tryd.pinned (.plain (OpenSpec.ofChange fnExactLeastRulesSpec)) fnExactLeastRulesCard

/-- THE SECOND FORM's CARD OF 'laws.FnExactLeastRules'. -/
def fnExactLeastRulesUptoCard : Claim7 := { stood := { row := fnExactLeastRulesUptoRow, standIns := [], harness := (true, "67cfd61aac4e7a5047e9a2ccc8aa48c3cb151aa5da32446fed4fad0f7e597975"), looks := false }, kinds := [], alts := [], laidByText := true, laidKinds := [.data, .data], laidTests := true, laidLooks := .later }
def FnExactLeastRulesUptoCardSaid : Prop := Claim7.holds Tryd.pinned (.plain (OpenSpec.upto fnExactLeastRulesSpec)) fnExactLeastRulesUptoCard
end Rows
end Go.Proofs.YtochdhibmmohfaaDoor
