/-
  The program's hasArg: what it returns.
-/
import Derived.Test.YtfhmmdiicnfjbaaDoorForms
import Derived.Test.YtfhmmdiicnfjbaaDoorEncM
import Derived.Test.YtfhmmdiicnfjbaaDoorOwnS
namespace Go.Proofs.YtfhmmdiicnfjbaaDoor
open Go.RowKit
set_option linter.unusedVariables false

set_option maxHeartbeats 1000000 in
theorem hasArg_yes (c : Int) (w : World) (hF : FormsAt w w.heap.size) (h1 : 0 ≤ c) (h2 : c < 20) (ha : ¬ argMost c < 0) :
    Calls Tryd.prog 30 #[.int .i64 c] w fun e w' => e = .returned (.bool true) ∧ w = w' := by
  obtain ⟨m, rfl⟩ := Int.eq_ofNat_of_zero_le h1
  have hm : m < 20 := by omega
  have hc := hF.arg m hm
  have ht : 0 < argTop (m : Int) := by
    unfold argTop
    rw [if_neg ha]
    unfold argMost at ha ⊢
    repeat' split
    all_goals first | omega | (exfalso; simp_all)
  have hr := argTop_range (m : Int)
  generalize argTop (m : Int) = T at hc ht hr
  have d : decide (0 < T) = true := by simpa using ht
  clear ha
  go_enter Tryd.func30, Tryd.ntmps30
  go_wp2
  go_ret
  exact ⟨rfl, rfl⟩

set_option maxHeartbeats 1000000 in
theorem hasArg_no (c : Int) (w : World) (hF : FormsAt w w.heap.size) (h1 : 0 ≤ c) (h2 : c < 20) (ha : argMost c < 0) :
    Calls Tryd.prog 30 #[.int .i64 c] w fun e w' => e = .returned (.bool false) ∧ w = w' := by
  obtain ⟨m, rfl⟩ := Int.eq_ofNat_of_zero_le h1
  have hm : m < 20 := by omega
  have hc := hF.arg m hm
  have ht : argTop (m : Int) = 0 := by unfold argTop; rw [if_pos ha]
  rw [ht] at hc
  clear ha ht
  go_enter Tryd.func30, Tryd.ntmps30
  go_wp2
  go_ret
  exact ⟨rfl, rfl⟩

end Go.Proofs.YtfhmmdiicnfjbaaDoor
