import Derived.Test.YtaolnnjcpnhghaeOwnNA
import Derived.Test.YtaolnnjcpnhghaeTup
namespace Go.Proofs.Ytaolnnjcpnhghae
open Go.RowKit
set_option linter.unusedVariables false
def setN (w : World) (g j : Nat) (v0 v1 v2 : Value) : World := ((w.setCell ⟨g, j * 3, none⟩ v0).setCell ⟨g, j * 3 + 1, none⟩ v1).setCell ⟨g, j * 3 + 2, none⟩ v2
def pickN (ns : List Nd) (L : List Int) (x : Int) : Nd := match ns[x.toNat]? with | some n => ⟨n.kind, n.value, n.kids.map (place L)⟩ | none => ⟨0, 0, []⟩
def pickNs (ns : List Nd) (L : List Int) : List Nd := L.map (pickN ns L)
def GivesG (w : World) (ms : List Nd) (r : Int) (e : Ending) (w' : World) : Prop :=
  ∃ A c, e = .returned (.agg #[.slice A ms.length c, .int .i64 r]) ∧ OwnNs w' w.heap.size w'.heap.size A c ms ∧ Below w.heap.size w w'
end Go.Proofs.Ytaolnnjcpnhghae
