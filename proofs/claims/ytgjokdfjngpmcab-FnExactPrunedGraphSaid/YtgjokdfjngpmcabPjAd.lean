/-
  Lemmas, several texts in one: ReachM, SzI, EqI.
-/
import Derived.Test.YtgjokdfjngpmcabPjAc
import Derived.Test.YtgjokdfjngpmcabSpecE
import Derived.Test.YtgjokdfjngpmcabDfs
import Derived.Test.YtgjokdfjngpmcabMem
namespace Go.Proofs.Ytgjokdfjngpmcab
open Go.RowKit
set_option linter.unusedVariables false

/-- every node may be entered -/
def anyB (x : Int) : Bool := true

theorem kidsIn_of_valid {ns : List Nd} {r : Int} (h : ValidG ns r) : KidsIn ns := fun n hn => (h.nodes n hn).inn

theorem in64_met {ns : List Nd} {L : List Int} (h12 : ns.length ≤ 12) (h : Met ns L) : ∀ x ∈ L, In64 x := in64_of_range h12 h.range

open Classical in
/-- the nodes that are reached from the root of a valid graph; none for another one -/
noncomputable def reachOf (ns : List Nd) (r : Int) : List Int := if ValidG ns r then dfs ns anyB (ns.length + 1) r [] else []

theorem reachOf_met {ns : List Nd} {r : Int} : Met ns (reachOf ns r) := by
  unfold reachOf
  split
  next h => exact dfs_met ns anyB (kidsIn_of_valid h) _ _ _ (Met.nil ns) ⟨h.root0, h.root⟩
  next => exact Met.nil ns

theorem reachOf_few {ns : List Nd} {r : Int} : (reachOf ns r).length ≤ 12 := by
  unfold reachOf
  split
  next h => exact Nat.le_trans (dfs_met ns anyB (kidsIn_of_valid h) _ _ _ (Met.nil ns) ⟨h.root0, h.root⟩).len h.few
  next => simp

end Go.Proofs.Ytgjokdfjngpmcab

namespace Go.Proofs.Ytgjokdfjngpmcab

/-- what szIntS counts -/
def szI (n : Nat) (left : Int) : Int := if left - n < 0 then -1 else left - n

theorem szI_le (n : Nat) (left : Int) (h1 : left ≤ 1048576) (h0 : 0 ≤ left) : szI n left ≤ left ∧ -1 ≤ szI n left := by
  unfold szI; split <;> omega

end Go.Proofs.Ytgjokdfjngpmcab

namespace Go.Proofs.Ytgjokdfjngpmcab

theorem eq_of_prefix {α : Type} [DecidableEq α] {xs ys : List α} (h : xs.length = ys.length) {k : Nat} (hk : k = xs.length) (he : ∀ j, j < k → xs[j]? = ys[j]?) : xs = ys := by
  apply List.ext_getElem?
  intro j
  by_cases hj : j < k
  · exact he j hj
  · rw [List.getElem?_eq_none (by omega), List.getElem?_eq_none (by omega)]

end Go.Proofs.Ytgjokdfjngpmcab
