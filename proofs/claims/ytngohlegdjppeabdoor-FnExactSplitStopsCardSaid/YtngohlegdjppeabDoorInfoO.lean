/-
  How an order lies in memory.
-/
import Derived.Test.YtngohlegdjppeabDoorMem
namespace Go.Proofs.YtngohlegdjppeabDoor

theorem infoOp : (Tryd.prog.info? 35).map (fun i => (i.zero, i.size, i.bytes)) = some (some (.agg #[.int .i64 0, .int .i64 0]), 2, 16) := by kernel_rfl

end Go.Proofs.YtngohlegdjppeabDoor
