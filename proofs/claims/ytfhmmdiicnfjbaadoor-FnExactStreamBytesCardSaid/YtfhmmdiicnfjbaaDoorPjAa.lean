/-
  Lemmas, several texts in one: InfoO, SzI.
-/
import Derived.Test.YtfhmmdiicnfjbaaDoorMem
namespace Go.Proofs.YtfhmmdiicnfjbaaDoor

theorem infoOp : (Tryd.prog.info? 40).map (fun i => (i.zero, i.size, i.bytes)) = some (some (.agg #[.int .i64 0, .int .i64 0]), 2, 16) := by kernel_rfl

end Go.Proofs.YtfhmmdiicnfjbaaDoor

namespace Go.Proofs.YtfhmmdiicnfjbaaDoor

/-- what szIntS counts -/
def szI (n : Nat) (left : Int) : Int := if left - n < 0 then -1 else left - n

theorem szI_le (n : Nat) (left : Int) (h1 : left ≤ 1048576) (h0 : 0 ≤ left) : szI n left ≤ left ∧ -1 ≤ szI n left := by
  unfold szI; split <;> omega

end Go.Proofs.YtfhmmdiicnfjbaaDoor
