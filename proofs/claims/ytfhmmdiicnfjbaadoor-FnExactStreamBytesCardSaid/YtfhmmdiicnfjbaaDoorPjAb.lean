/-
  Lemmas, several texts in one: Arg, OpOk, EqI.
-/
import Derived.Test.YtfhmmdiicnfjbaaDoorChecked
import Derived.Test.YtfhmmdiicnfjbaaDoorOd
import Derived.Test.YtfhmmdiicnfjbaaDoorMem
namespace Go.Proofs.YtfhmmdiicnfjbaaDoor

/-- the greatest argument of a code, -1 if it has none -/
def argMost (c : Int) : Int := if c = 0 then 999 else if c = 1 then 9 else if c = 13 then 9 else if c = 15 then 19 else if c = 16 then 19 else -1

theorem argMost_range (c : Int) : -1 ≤ argMost c ∧ argMost c ≤ 999 := by
  unfold argMost
  repeat' split
  all_goals omega

/-- the greatest argument of a code, 0 if it has none -/
def argTop (c : Int) : Int := if argMost c < 0 then 0 else argMost c

theorem argTop_range (c : Int) : 0 ≤ argTop c ∧ argTop c ≤ 999 := by
  have := argMost_range c
  unfold argTop
  split <;> omega

end Go.Proofs.YtfhmmdiicnfjbaaDoor

namespace Go.Proofs.YtfhmmdiicnfjbaaDoor

/-- a valid order -/
def OdOk (o : Od) : Prop := (0 ≤ o.code ∧ o.code ≤ 19) ∧ ((argMost o.code < 0 ∧ o.arg = 0) ∨ (0 ≤ argMost o.code ∧ 0 ≤ o.arg ∧ o.arg ≤ argMost o.code))

/-- a valid program -/
def OpsOk (os : List Od) : Prop := os.length ≤ 300 ∧ ∀ o ∈ os, OdOk o

theorem OdOk.iff (o : Od) : OdOk o ↔ (0 ≤ o.code ∧ o.code ≤ 19) ∧ (0 ≤ o.arg ∧ o.arg ≤ argTop o.code) := by
  unfold OdOk argTop
  split <;> constructor <;> intro h <;> omega

end Go.Proofs.YtfhmmdiicnfjbaaDoor

namespace Go.Proofs.YtfhmmdiicnfjbaaDoor

theorem eq_of_prefix {α : Type} [DecidableEq α] {xs ys : List α} (h : xs.length = ys.length) {k : Nat} (hk : k = xs.length) (he : ∀ j, j < k → xs[j]? = ys[j]?) : xs = ys := by
  apply List.ext_getElem?
  intro j
  by_cases hj : j < k
  · exact he j hj
  · rw [List.getElem?_eq_none (by omega), List.getElem?_eq_none (by omega)]

end Go.Proofs.YtfhmmdiicnfjbaaDoor
