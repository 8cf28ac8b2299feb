/-
  The classes of a program: mathematics.
-/
import Derived.Test.YtaolnnjcpnhghacDoorOpOk
import Derived.Test.YtaolnnjcpnhghacDoorMem
namespace Go.Proofs.YtaolnnjcpnhghacDoor
set_option linter.unusedVariables false

open Classical in
/-- the classes below k of a program's objects -/
noncomputable def clsTo (os : List Od) (k : Nat) : List Int := ((List.range k).filter fun (c : Nat) => decide ((⟨13, (c : Int)⟩ : Od) ∈ os)).map fun (c : Nat) => (c : Int)

theorem clsTo_zero (os : List Od) : clsTo os 0 = [] := rfl
theorem clsTo_yes {os : List Od} {k : Nat} (h : (⟨13, (k : Int)⟩ : Od) ∈ os) : clsTo os (k + 1) = clsTo os k ++ [(k : Int)] := by
  unfold clsTo
  rw [List.range_succ, List.filter_append, List.map_append]
  simp [h]
theorem clsTo_no {os : List Od} {k : Nat} (h : (⟨13, (k : Int)⟩ : Od) ∉ os) : clsTo os (k + 1) = clsTo os k := by
  unfold clsTo
  rw [List.range_succ, List.filter_append, List.map_append]
  simp [h]
theorem clsTo_len (os : List Od) (k : Nat) : (clsTo os k).length ≤ k := by
  unfold clsTo
  rw [List.length_map]
  exact Nat.le_trans (List.length_filter_le _ _) (by simp)
theorem clsTo_in {os : List Od} {k : Nat} : ∀ x ∈ clsTo os k, 0 ≤ x ∧ x < (k : Int) := by
  intro x hx
  unfold clsTo at hx
  obtain ⟨c, hc, rfl⟩ := List.mem_map.1 hx
  have := List.mem_range.1 (List.mem_filter.1 hc).1
  omega

open Classical in
/-- the classes of a program's objects -/
noncomputable def classesIn (os : List Od) : List Int := if OpsOk os then clsTo os 10 else []

theorem classesIn_few {os : List Od} : (classesIn os).length ≤ 300 := by
  unfold classesIn
  split
  · exact Nat.le_trans (clsTo_len _ _) (by omega)
  · simp
theorem classesIn_64 {os : List Od} : ∀ x ∈ classesIn os, In64 x := by
  unfold classesIn
  split
  · intro x hx
    have := clsTo_in x hx
    constructor <;> omega
  · intro x hx; simp at hx

end Go.Proofs.YtaolnnjcpnhghacDoor
