/-
  How the program's int lies in memory.
-/
import Derived.Test.YthdldkbeccmcmaaMem
namespace Go.Proofs.Ythdldkbeccmcmaa

theorem infoInt : (Try.prog.info? 3).map (fun i => (i.zero, i.size, i.bytes)) = some (some (.int .i64 0), 1, 8) := by kernel_rfl

end Go.Proofs.Ythdldkbeccmcmaa
