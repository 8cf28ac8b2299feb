/-
  The walk of the law FnExactTakesOf: for every number it returns true and writes nothing that was there.
-/
import Derived.Test.YtkkkhdcpkcjhfaeDoorTkI
namespace Go.Proofs.YtkkkhdcpkcjhfaeDoor
open Go.RowKit
set_option linter.unusedVariables false

set_option maxRecDepth 100000 in
set_option maxHeartbeats 1000000 in
theorem exTK_any (c : Int) (w : World) (hF : FormsAt w w.heap.size) :
    Calls Tryd.prog 3 #[.int .i64 c] w fun e w' => e = .returned (.bool true) ∧ Below w.heap.size w w' := by
  have hS := specTakesOf_any c w
  have hI := fun w1 h => implTakesOf_any c w1 h
  generalize takesC c = a at hS hI
  generalize pushesC c = b at hS hI
  have ha : (a != a) = false := by simp
  have hb : (b != b) = false := by simp
  go_enter Tryd.func3, Tryd.ntmps3
  go_wp2_with fail
  refine hS.mono ?_
  rintro e w1 ⟨rfl, hb1⟩
  clear hS
  go_wp2_with fail
  refine (hI w1 (hF.later hb1 (Nat.le_refl _))).mono ?_
  rintro e w2 ⟨rfl, hb2⟩
  have hb12 := hb1.trans (hb2.mono hb1.size)
  clear hI hb2
  go_wp2
  go_ret
  exact ⟨rfl, hb12⟩

end Go.Proofs.YtkkkhdcpkcjhfaeDoor
