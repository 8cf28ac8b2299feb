/-
  Which nodes lie on cycles: the mathematics that the model and the program share.
-/
import Derived.Test.YtmpplimghjkjaaeReachM
namespace Go.Proofs.Ytmpplimghjkjaae
open Go.RowKit
set_option linter.unusedVariables false

/-- a way leads from the node i back to it -/
def OnCyc (ns : List Nd) (i : Int) : Prop := i ∈ dfsL ns anyB (ns.length + 1) (kidsOf ns i) []

/-- those of the first k numbers for which p holds -/
def pickTo (p : Nat → Bool) (k : Nat) : List Int := ((List.range k).filter p).map fun (i : Nat) => (i : Int)
theorem pickTo_zero (p : Nat → Bool) : pickTo p 0 = [] := rfl
theorem pickTo_yes {p : Nat → Bool} {k : Nat} (h : p k = true) : pickTo p (k + 1) = pickTo p k ++ [(k : Int)] := by
  simp [pickTo, List.range_succ, List.filter_append, h]
theorem pickTo_no {p : Nat → Bool} {k : Nat} (h : p k = false) : pickTo p (k + 1) = pickTo p k := by
  simp [pickTo, List.range_succ, List.filter_append, h]
theorem pickTo_len (p : Nat → Bool) (k : Nat) : (pickTo p k).length ≤ k := by
  unfold pickTo
  rw [List.length_map]
  exact Nat.le_trans (List.length_filter_le _ _) (by simp)
theorem pickTo_64 {p : Nat → Bool} {k : Nat} (hk : k ≤ 1048576) : ∀ x ∈ pickTo p k, In64 x := by
  intro x hx
  obtain ⟨j, hj, rfl⟩ := List.mem_map.1 hx
  have := List.mem_range.1 (List.mem_filter.1 hj).1
  constructor <;> omega

/-- the node i is reached and lies on a cycle -/
noncomputable def isCyc (ns : List Nd) (r : Int) (i : Nat) : Bool := tf ((i : Int) ∈ reachOf ns r) && tf (OnCyc ns (i : Int))

open Classical in
/-- the nodes on cycles of a valid graph; none for another one -/
noncomputable def cyclesOf (ns : List Nd) (r : Int) : List Int := if ValidG ns r then pickTo (isCyc ns r) ns.length else []

end Go.Proofs.Ytmpplimghjkjaae
