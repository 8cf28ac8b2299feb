/-
  The greatest arguments of codes. Plain definitions and lemmas, no walk.
-/
import Derived.Test.YtanicidkmfoooabDoorChecked
namespace Go.Proofs.YtanicidkmfoooabDoor

/-- the greatest argument of a code, -1 if it has none -/
def argMost (c : Int) : Int := if c = 0 then 999 else if c = 1 then 9 else if c = 13 then 9 else if c = 15 then 19 else if c = 16 then 19 else -1

theorem argMost_range (c : Int) : -1 ≤ argMost c ∧ argMost c ≤ 999 := by
  unfold argMost
  repeat' split
  all_goals omega

/-- the greatest argument of a code, 0 if it has none -/
def argTop (c : Int) : Int := if argMost c < 0 then 0 else argMost c

theorem argTop_range (c : Int) : 0 ≤ argTop c ∧ argTop c ≤ 999 := by
  have := argMost_range c
  unfold argTop
  split <;> omega

end Go.Proofs.YtanicidkmfoooabDoor
