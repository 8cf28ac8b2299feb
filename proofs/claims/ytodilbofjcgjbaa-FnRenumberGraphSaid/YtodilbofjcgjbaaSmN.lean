/-
  Short lists of nodes with few kids.
-/
import Derived.Test.YtodilbofjcgjbaaPkA
namespace Go.Proofs.Ytodilbofjcgjbaa

/-- all lists of kids, and the marks, are small -/
structure SmallN (ns : List Nd) : Prop where
  len : ns.length ≤ 400
  kids : ∀ n ∈ ns, n.kids.length ≤ 2000

end Go.Proofs.Ytodilbofjcgjbaa
