/-
  The program's TakesOf: what it returns.
-/
import Derived.Test.YtkkkhdcpkcjhfaaDoorTkS
import Derived.Test.YtkkkhdcpkcjhfaaDoorUpTo
namespace Go.Proofs.YtkkkhdcpkcjhfaaDoor
open Go.RowKit
set_option linter.unusedVariables false

set_option maxRecDepth 100000 in
set_option maxHeartbeats 1000000 in
theorem implTakesOf_any (c : Int) (w : World) (hF : FormsAt w w.heap.size) :
    Calls Tryd.prog 5 #[.int .i64 c] w fun e w' => e = .returned (.tuple #[.int .i64 (takesC c), .int .i64 (pushesC c)]) ∧ Below w.heap.size w w' := by
  by_cases hc : 0 ≤ c ∧ c ≤ 19
  · obtain ⟨m, rfl⟩ := Int.eq_ofNat_of_zero_le hc.1
    have hm : m < 20 := by omega
    have h1 : takesC (m : Int) = takesOf m := by unfold takesC; rw [if_pos hc]; rfl
    have h2 : pushesC (m : Int) = pushesOf m := by unfold pushesC; rw [if_pos hc]; rfl
    rw [h1, h2]
    have e1 := hF.takes m hm
    have e2 := hF.pushes m hm
    have hm1 : (0 : Int) ≤ (m : Int) := by omega
    have hm2 : (m : Int) < 20 := by omega
    clear h1 h2 hc hF
    go_enter Tryd.func5, Tryd.ntmps5
    go_wp2_with fail
    refine (isUpTo_yes (m : Int) 19 w (by omega) (by omega)).mono ?_
    rintro e w' ⟨rfl, rfl⟩
    go_wp2_with fail
    go_quiet (fail)
    go_wp2
    go_ret2
    exact ⟨rfl, below_drewN (Below.refl _ _) _⟩
  · have h1 : takesC c = -2 := by unfold takesC; rw [if_neg hc]
    have h2 : pushesC c = -2 := by unfold pushesC; rw [if_neg hc]
    rw [h1, h2]
    clear h1 h2
    go_enter Tryd.func5, Tryd.ntmps5
    go_wp2_with fail
    refine (isUpTo_no c 19 w (by omega)).mono ?_
    rintro e w' ⟨rfl, rfl⟩
    go_wp2
    go_ret2
    exact ⟨rfl, Below.refl _ _⟩

end Go.Proofs.YtkkkhdcpkcjhfaaDoor
