import Derived.Test.YtaolnnjcpnhghabMem
namespace Go.Proofs.Ytaolnnjcpnhghab
theorem infoInt : (Try.prog.info? 3).map (fun i => (i.zero, i.size, i.bytes)) = some (some (.int .i64 0), 1, 8) := by kernel_rfl
end Go.Proofs.Ytaolnnjcpnhghab
