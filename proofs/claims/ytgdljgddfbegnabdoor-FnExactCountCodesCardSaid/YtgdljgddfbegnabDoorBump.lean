/-
  Lists of counts, of which one is raised by one. Plain lemmas, no walk.
-/
import Derived.Test.YtgdljgddfbegnabDoorMem
namespace Go.Proofs.YtgdljgddfbegnabDoor
open Go.RowKit
set_option linter.unusedVariables false

/-- one more use of the node x -/
def bump (us : List Int) (x : Int) : List Int := us.set x.toNat (us.getD x.toNat 0 + 1)
/-- one more use of each of these -/
def bumps (us : List Int) (xs : List Int) : List Int := xs.foldl bump us
theorem bumps_nil (us : List Int) : bumps us [] = us := rfl
theorem bumps_snoc (us xs : List Int) (x : Int) : bumps us (xs ++ [x]) = bump (bumps us xs) x := by simp [bumps]
theorem bump_len (us : List Int) (x : Int) : (bump us x).length = us.length := by simp [bump]
theorem bumps_len (us xs : List Int) : (bumps us xs).length = us.length := by
  unfold bumps
  induction xs generalizing us with
  | nil => rfl
  | cons a xs ih => rw [List.foldl_cons, ih, bump_len]

/-- all of them between 0 and m -/
def Upto (us : List Int) (m : Int) : Prop := ∀ x ∈ us, 0 ≤ x ∧ x ≤ m
theorem Upto.getD {us : List Int} {m : Int} (h : Upto us m) (hm : 0 ≤ m) (k : Nat) : 0 ≤ us.getD k 0 ∧ us.getD k 0 ≤ m := by
  by_cases hk : k < us.length
  · have e : us.getD k 0 = us[k] := by simp [List.getD, hk]
    rw [e]
    exact h _ (List.getElem_mem hk)
  · have e : us.getD k 0 = 0 := by simp [List.getD, List.getElem?_eq_none (Nat.le_of_not_lt hk)]
    rw [e]; omega
theorem Upto.bump {us : List Int} {m : Int} (h : Upto us m) (hm : 0 ≤ m) (x : Int) : Upto (bump us x) (m + 1) := by
  intro y hy
  have h2 := h.getD hm x.toNat
  rcases List.mem_or_eq_of_mem_set hy with hy | hy
  · have := h y hy; omega
  · omega
theorem Upto.bumps {us : List Int} {m : Int} (h : Upto us m) (hm : 0 ≤ m) (xs : List Int) : Upto (bumps us xs) (m + xs.length) := by
  unfold Go.Proofs.YtgdljgddfbegnabDoor.bumps
  induction xs generalizing us m with
  | nil => simpa using h
  | cons a xs ih =>
    rw [List.foldl_cons]
    have := ih (h.bump hm a) (by omega)
    rw [List.length_cons]
    intro y hy
    have := this y hy
    omega
theorem Upto.zeros (n : Nat) : Upto (List.replicate n 0) 0 := by
  intro x hx
  have := List.eq_of_mem_replicate hx
  omega

theorem intCell_bump (us : List Int) (y : Nat) (hy : y < us.length) (i : Nat) : intCell (bump us (y : Int)) i = if i = y then .int .i64 (us.getD y 0 + 1) else intCell us i := by
  unfold intCell bump
  by_cases e : i = y
  · subst e
    simp [List.getD, hy]
  · rw [if_neg e]
    simp [List.getD, Ne.symm e]
theorem intCell_zeros (n i : Nat) : intCell (List.replicate n 0) i = .int .i64 0 := by
  unfold intCell
  by_cases h : i < n
  · simp [List.getD, h]
  · simp [List.getD, h]

theorem Upto.mono {us : List Int} {m m' : Int} (h : Upto us m) (hm : m ≤ m') : Upto us m' := fun x hx => by have := h x hx; omega

end Go.Proofs.YtgdljgddfbegnabDoor
