/-
  The nodes that are used more than once and are no numbers. Plain definitions and lemmas, no walk.
-/
import Derived.Test.YtmpplimghjkjaaeUsesM
namespace Go.Proofs.Ytmpplimghjkjaae
open Go.RowKit
set_option linter.unusedVariables false

/-- the node i counts as shared -/
def isShared (ns : List Nd) (us : List Int) (i : Nat) : Bool := decide (1 < us.getD i 0) && kindOf ns (i : Int) != 0
/-- those of the first k nodes that are shared -/
def sharedTo (ns : List Nd) (us : List Int) (k : Nat) : List Int := ((List.range k).filter (isShared ns us)).map fun (i : Nat) => (i : Int)
theorem sharedTo_zero (ns : List Nd) (us : List Int) : sharedTo ns us 0 = [] := rfl
theorem sharedTo_yes {ns : List Nd} {us : List Int} {k : Nat} (h : isShared ns us k = true) : sharedTo ns us (k + 1) = sharedTo ns us k ++ [(k : Int)] := by
  simp [sharedTo, List.range_succ, List.filter_append, h]
theorem sharedTo_no {ns : List Nd} {us : List Int} {k : Nat} (h : isShared ns us k = false) : sharedTo ns us (k + 1) = sharedTo ns us k := by
  simp [sharedTo, List.range_succ, List.filter_append, h]
theorem sharedTo_len (ns : List Nd) (us : List Int) (k : Nat) : (sharedTo ns us k).length ≤ k := by
  unfold sharedTo
  rw [List.length_map]
  exact Nat.le_trans (List.length_filter_le _ _) (by simp)
theorem sharedTo_64 {ns : List Nd} {us : List Int} {k : Nat} (hk : k ≤ 1048576) : ∀ x ∈ sharedTo ns us k, In64 x := by
  intro x hx
  obtain ⟨j, hj, rfl⟩ := List.mem_map.1 hx
  have := List.mem_range.1 (List.mem_filter.1 hj).1
  constructor <;> omega

open Classical in
/-- the shared nodes of a valid graph; none for another one -/
noncomputable def sharedOf (ns : List Nd) (r : Int) : List Int := if ValidG ns r then sharedTo ns (usesOf ns r (reachOf ns r)) ns.length else []

theorem kindOf_at' {ns : List Nd} {k : Nat} {n : Nd} (h : ns[k]? = some n) : kindOf ns (k : Int) = n.kind := kindOf_at h

theorem sharedOf_few (ns : List Nd) (r : Int) : (sharedOf ns r).length ≤ 12 := by
  unfold sharedOf
  split
  · next hv =>
    have := sharedTo_len ns (usesOf ns r (reachOf ns r)) ns.length
    have := hv.few
    omega
  · simp
theorem sharedOf_64 (ns : List Nd) (r : Int) : ∀ x ∈ sharedOf ns r, In64 x := by
  unfold sharedOf
  split
  · next hv => exact sharedTo_64 (by have := hv.few; omega)
  · intro x hx; simp at hx

end Go.Proofs.Ytmpplimghjkjaae
