/-
  When orders and programs are valid. Plain definitions and lemmas, no walk.
-/
import Derived.Test.YtngohlegdjppeabDoorOd
import Derived.Test.YtngohlegdjppeabDoorArg
namespace Go.Proofs.YtngohlegdjppeabDoor

/-- a valid order -/
def OdOk (o : Od) : Prop := (0 ≤ o.code ∧ o.code ≤ 19) ∧ ((argMost o.code < 0 ∧ o.arg = 0) ∨ (0 ≤ argMost o.code ∧ 0 ≤ o.arg ∧ o.arg ≤ argMost o.code))

/-- a valid program -/
def OpsOk (os : List Od) : Prop := os.length ≤ 300 ∧ ∀ o ∈ os, OdOk o

theorem OdOk.iff (o : Od) : OdOk o ↔ (0 ≤ o.code ∧ o.code ≤ 19) ∧ (0 ≤ o.arg ∧ o.arg ≤ argTop o.code) := by
  unfold OdOk argTop
  split <;> constructor <;> intro h <;> omega

end Go.Proofs.YtngohlegdjppeabDoor
