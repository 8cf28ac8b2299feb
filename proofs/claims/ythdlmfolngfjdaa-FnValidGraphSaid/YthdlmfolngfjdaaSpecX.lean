/-
  The model's ValidGraph as the given function: it calls validGraph.
-/
import Derived.Test.YthdlmfolngfjdaaSpecE
namespace Go.Proofs.Ythdlmfolngfjdaa
open Go.RowKit
set_option linter.unusedVariables false

set_option maxHeartbeats 400000 in
theorem specValidGraphX_any (A : Option Addr) (ns : List Nd) (c : Nat) (r : Int) (w : World) (hr : NdsAt w w.heap.size A ns) :
    Calls Try.prog 6 #[.agg #[.slice A ns.length c, .int .i64 r]] w fun e w' => e = .returned (.bool (tf (ValidG ns r))) ∧ Below w.heap.size w w' := by
  have hB : Below w.heap.size w (w.alloc (.cells #[.slice A ns.length c, .int .i64 r] 25)) := (Below.refl _ _).alloc (Nat.le_refl _) _
  have hr2 := hr.later hB (Nat.le_refl _)
  go_enter Try.func6, Try.ntmps6
  go_wp2_with fail
  refine (specValidGraph_any A ns c r _ hr2).mono ?_
  rintro e w' ⟨rfl, hb⟩
  generalize hx : tf (ValidG ns r) = x
  have Hx := hide hx
  clear hx
  go_wp2
  go_ret
  exact ⟨ret_bool Hx.out.symm, hB.trans (hb.mono hB.size)⟩

end Go.Proofs.Ythdlmfolngfjdaa
