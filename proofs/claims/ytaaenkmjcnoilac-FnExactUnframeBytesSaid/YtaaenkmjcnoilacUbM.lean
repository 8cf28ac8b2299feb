/-
  Lists that are frames to their end: mathematics. Plain lemmas, no walk.
-/
import Derived.Test.YtaaenkmjcnoilacFrM
namespace Go.Proofs.Ytaaenkmjcnoilac

/-- a list is frames to its end -/
def UnfOk (xs : List Int) : Prop := BytesOk 2000 xs ∧ (unfr xs.length xs).2 = xs.length
instance (xs : List Int) : Decidable (UnfOk xs) := inferInstanceAs (Decidable (_ ∧ _))

/-- what UnframeBytes returns -/
def unfAll (xs : List Int) : List Int := if UnfOk xs then (unfr xs.length xs).1 else []
theorem unfAll_ok {xs : List Int} (h : UnfOk xs) : unfAll xs = (unfr xs.length xs).1 := by unfold unfAll; rw [if_pos h]
theorem unfAll_no {xs : List Int} (h : ¬ UnfOk xs) : unfAll xs = [] := by unfold unfAll; rw [if_neg h]
theorem unfAll_few (xs : List Int) : (unfAll xs).length ≤ 2000 := by
  unfold unfAll
  split
  · rename_i h
    have := unfr_le xs.length xs
    have := h.1.1
    omega
  · simp
theorem unfAll_byte (xs : List Int) : ∀ x ∈ unfAll xs, 0 ≤ x ∧ x ≤ 255 := by
  unfold unfAll
  split
  · rename_i h
    exact unfr_mem _ _ h.1.2
  · intro x hx; cases hx

end Go.Proofs.Ytaaenkmjcnoilac
