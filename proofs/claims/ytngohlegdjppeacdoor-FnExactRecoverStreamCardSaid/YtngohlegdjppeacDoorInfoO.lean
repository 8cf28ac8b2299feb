/-
  How an order lies in memory.
-/
import Derived.Test.YtngohlegdjppeacDoorMem
namespace Go.Proofs.YtngohlegdjppeacDoor

theorem infoOp : (Tryd.prog.info? 36).map (fun i => (i.zero, i.size, i.bytes)) = some (some (.agg #[.int .i64 0, .int .i64 0]), 2, 16) := by kernel_rfl

end Go.Proofs.YtngohlegdjppeacDoor
