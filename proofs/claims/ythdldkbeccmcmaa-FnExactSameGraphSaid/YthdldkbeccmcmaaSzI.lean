/-
  What the size counters count of one list. Plain lemmas, no walk.
-/
import Derived.Test.YthdldkbeccmcmaaMem
namespace Go.Proofs.Ythdldkbeccmcmaa

/-- what szIntS counts -/
def szI (n : Nat) (left : Int) : Int := if left - n < 0 then -1 else left - n

theorem szI_le (n : Nat) (left : Int) (h1 : left ≤ 1048576) (h0 : 0 ≤ left) : szI n left ≤ left ∧ -1 ≤ szI n left := by
  unfold szI; split <;> omega

end Go.Proofs.Ythdldkbeccmcmaa
