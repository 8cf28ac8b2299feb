/-
  How many orders of each code a program has. Plain lemmas, no walk.
-/
import Derived.Test.YtgdljgddfbegnabDoorBump
import Derived.Test.YtgdljgddfbegnabDoorOpOk
namespace Go.Proofs.YtgdljgddfbegnabDoor
set_option linter.unusedVariables false

/-- the counts of the first k orders -/
def countsTo (os : List Od) (k : Nat) : List Int := bumps (List.replicate 20 0) ((os.take k).map (·.code))

theorem countsTo_zero (os : List Od) : countsTo os 0 = List.replicate 20 0 := by simp [countsTo, bumps]
theorem countsTo_succ {os : List Od} {k : Nat} {o : Od} (h : os[k]? = some o) : countsTo os (k + 1) = bump (countsTo os k) o.code := by
  unfold countsTo
  rw [List.take_add_one, h]
  simp [bumps_snoc]
theorem countsTo_len (os : List Od) (k : Nat) : (countsTo os k).length = 20 := by
  unfold countsTo
  rw [bumps_len]; simp
theorem countsTo_upto (os : List Od) (k : Nat) : Upto (countsTo os k) (os.length : Int) := by
  have h1 : Upto (bumps (List.replicate 20 0) ((os.take k).map (·.code))) (0 + (((os.take k).map (·.code)).length : Int)) := (Upto.zeros 20).bumps (by omega) _
  refine Upto.mono h1 ?_
  rw [List.length_map, List.length_take]
  omega

open Classical in
noncomputable def countsOf (os : List Od) : List Int := if OpsOk os then countsTo os os.length else []

theorem countsOf_ok {os : List Od} (h : OpsOk os) : countsOf os = countsTo os os.length := by unfold countsOf; rw [if_pos h]
theorem countsOf_no {os : List Od} (h : ¬ OpsOk os) : countsOf os = [] := by unfold countsOf; rw [if_neg h]

theorem countsOf_few {os : List Od} : (countsOf os).length ≤ 300 := by
  unfold countsOf
  split
  · rw [countsTo_len]; omega
  · simp

theorem countsOf_64 {os : List Od} : ∀ x ∈ countsOf os, In64 x := by
  unfold countsOf
  split
  next h =>
    intro x hx
    have h1 := countsTo_upto os os.length x hx
    have h2 := h.1
    constructor <;> omega
  next => simp

end Go.Proofs.YtgdljgddfbegnabDoor
