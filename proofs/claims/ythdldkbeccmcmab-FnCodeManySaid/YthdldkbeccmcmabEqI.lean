/-
  Two lists that agree up to their common length are equal. Plain lemmas, no walk.
-/
import Derived.Test.YthdldkbeccmcmabMem
namespace Go.Proofs.Ythdldkbeccmcmab

theorem eq_of_prefix {α : Type} [DecidableEq α] {xs ys : List α} (h : xs.length = ys.length) {k : Nat} (hk : k = xs.length) (he : ∀ j, j < k → xs[j]? = ys[j]?) : xs = ys := by
  apply List.ext_getElem?
  intro j
  by_cases hj : j < k
  · exact he j hj
  · rw [List.getElem?_eq_none (by omega), List.getElem?_eq_none (by omega)]

end Go.Proofs.Ythdldkbeccmcmab
