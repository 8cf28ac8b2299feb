/-
  The model's ValidOps: what it returns.
-/
import Derived.Test.YtgdljgddfbegnaaDoorSpecO
namespace Go.Proofs.YtgdljgddfbegnaaDoor
open Go.RowKit
set_option linter.unusedVariables false

theorem specValidOpsX_any (A : Option Addr) (os : List Od) (c : Nat) (w : World) (h : OpsAt w w.heap.size A os) :
    Calls Tryd.prog 5 #[.slice A os.length c] w fun e w' => e = .returned (.bool (tf (OpsOk os))) ∧ Below w.heap.size w w' := by
  go_enter Tryd.func5, Tryd.ntmps5
  go_wp2_with fail
  refine (specValidOps_any A os c w h).mono ?_
  rintro e w' ⟨rfl, hb⟩
  generalize hv : tf (OpsOk os) = v
  have Hv := hide hv
  clear hv
  go_wp2
  go_ret
  exact ⟨ret_bool Hv.out.symm, hb⟩

end Go.Proofs.YtgdljgddfbegnaaDoor
