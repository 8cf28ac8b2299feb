import Derived.Test.YtaolnnjcpnhghaeMem
namespace Go.Proofs.Ytaolnnjcpnhghae
structure SmallN (ns : List Nd) : Prop where
  len : ns.length ≤ 400
  kids : ∀ n ∈ ns, n.kids.length ≤ 2000
end Go.Proofs.Ytaolnnjcpnhghae
