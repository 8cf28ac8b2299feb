/-
  How the program's int lies in memory.
-/
import Derived.Test.YtngohlegdjppeacDoorMem
namespace Go.Proofs.YtngohlegdjppeacDoor

theorem infoInt : (Tryd.prog.info? 3).map (fun i => (i.zero, i.size, i.bytes)) = some (some (.int .i64 0), 1, 8) := by kernel_rfl

end Go.Proofs.YtngohlegdjppeacDoor
