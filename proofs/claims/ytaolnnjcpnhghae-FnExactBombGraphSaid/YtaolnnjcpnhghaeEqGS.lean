import Derived.Test.YtaolnnjcpnhghaeEq
namespace Go.Proofs.Ytaolnnjcpnhghae
open Go.RowKit
theorem eqGraph_same (A A' : Option Addr) (ms : List Nd) (r : Int) (c c' : Nat) (w : World) (h : NdsAt w w.heap.size A ms) (h' : NdsAt w w.heap.size A' ms) :
    Calls Try.prog 6 #[.agg #[.slice A ms.length c, .int .i64 r], .agg #[.slice A' ms.length c', .int .i64 r]] w fun e w' => e = .returned (.bool true) ∧ Below w.heap.size w w' :=
  (eqGraph_any A A' ms ms r r c c' w h h').mono fun e w' ⟨he, hb⟩ => ⟨by rw [he]; simp, hb⟩
end Go.Proofs.Ytaolnnjcpnhghae
