/-
  Up to and with the last order that ends a root: mathematics.
-/
import Derived.Test.YtngohlegdjppeacDoorFrM
import Derived.Test.YtngohlegdjppeacDoorDecM
namespace Go.Proofs.YtngohlegdjppeacDoor
set_option linter.unusedVariables false

/-- how many of the first k orders there are up to and with the last one that stops -/
def stopTo (os : List Od) : Nat → Nat
  | 0 => 0
  | k + 1 => if (os.getD k ⟨0, 0⟩).code = 19 then k + 1 else stopTo os k
def lastStop (os : List Od) : Nat := stopTo os os.length

theorem stopTo_le (os : List Od) (k : Nat) : stopTo os k ≤ k := by
  induction k with
  | zero => exact Nat.le_refl _
  | succ k ih => unfold stopTo; split <;> omega
theorem lastStop_le (os : List Od) : lastStop os ≤ os.length := stopTo_le os _
theorem stopTo_yes {os : List Od} {k : Nat} {o : Od} (h : os[k]? = some o) (hc : o.code = 19) : stopTo os (k + 1) = k + 1 := by
  unfold stopTo; rw [List.getD_eq_getElem?_getD, h]; exact if_pos hc
theorem stopTo_no {os : List Od} {k : Nat} {o : Od} (h : os[k]? = some o) (hc : o.code ≠ 19) : stopTo os (k + 1) = stopTo os k := by
  rw [stopTo, List.getD_eq_getElem?_getD, h]; exact if_neg hc

/-- what is told of a stream of which the end may be torn -/
def recOps (xs : List Int) : List Od := (tornOps (unfrBytes xs)).take (lastStop (tornOps (unfrBytes xs)))
theorem recOps_few (xs : List Int) : (recOps xs).length ≤ 300 := by
  have := tornOps_few (unfrBytes xs)
  unfold recOps
  simp; omega
theorem recOps_64 (xs : List Int) : ∀ o ∈ recOps xs, In64 o.code ∧ In64 o.arg := fun o ho => tornOps_64 _ o (List.mem_of_mem_take ho)
theorem recOps_bad {xs : List Int} (h : ¬ BytesOk 2000 xs) : recOps xs = [] := by
  unfold recOps
  rw [unfrBytes_no h]
  have : tornOps [] = [] := by
    rw [tornOps_ok ⟨by simp, fun x hx => by cases hx⟩]
    rfl
  rw [this]
  rfl
theorem recOps_long {xs : List Int} (h : ¬ BytesOk 1000 (unfrBytes xs)) : recOps xs = [] := by
  unfold recOps
  rw [tornOps_no h]
  rfl
theorem unfr_ok {xs : List Int} (h : BytesOk 2000 xs) (hl : (unfr xs.length xs).1.length ≤ 1000) : BytesOk 1000 (unfr xs.length xs).1 := ⟨hl, unfr_mem _ _ h.2⟩
/-- is it a stream at all -/
def RecOk (xs : List Int) : Prop := BytesOk 2000 xs ∧ BytesOk 1000 (unfrBytes xs)

end Go.Proofs.YtngohlegdjppeacDoor
