/-
  The bytes of a stream: mathematics.
-/
import Derived.Test.YtfhmmdiicnfjbaaDoorSpM
import Derived.Test.YtfhmmdiicnfjbaaDoorFrM
import Derived.Test.YtfhmmdiicnfjbaaDoorEncM
namespace Go.Proofs.YtfhmmdiicnfjbaaDoor
set_option linter.unusedVariables false

/-- the frames of some parts -/
noncomputable def framesOf (m : Int) (l : List (List Od)) : List Int := (l.map fun p => frameOf (encodeOf p) m).flatten
theorem framesOf_step {m : Int} {l : List (List Od)} {k : Nat} {p : List Od} (h : l[k]? = some p) : framesOf m (l.take (k + 1)) = framesOf m (l.take k) ++ frameOf (encodeOf p) m := by
  unfold framesOf
  rw [List.take_add_one, h, List.map_append, List.flatten_append]
  simp
theorem framesOf_nil (m : Int) : framesOf m [] = [] := rfl
theorem frameOf_twice (xs : List Int) (m : Int) : (frameOf xs m).length ≤ 2 * xs.length := by
  unfold frameOf
  split
  · rename_i h
    exact framed_len (m := m.toNat) (by omega) xs.length xs
  · simp
theorem encodeOf_thrice (os : List Od) : (encodeOf os).length ≤ 3 * os.length := by
  by_cases h : OpsOk os
  · rw [encodeOf_ok h]; exact (encs_len os).2
  · rw [encodeOf_no h]; simp
theorem framesOf_len (m : Int) (l : List (List Od)) : (framesOf m l).length ≤ 6 * l.flatten.length := by
  induction l with
  | nil => simp [framesOf]
  | cons p l ih =>
    have h1 := frameOf_twice (encodeOf p) m
    have h2 := encodeOf_thrice p
    have e : framesOf m (p :: l) = frameOf (encodeOf p) m ++ framesOf m l := by simp [framesOf]
    rw [e, List.length_append, List.flatten_cons, List.length_append]
    omega
theorem framesOf_byte (m : Int) (l : List (List Od)) : ∀ x ∈ framesOf m l, 0 ≤ x ∧ x ≤ 255 := by
  intro x hx
  obtain ⟨y, hy, hx⟩ := List.mem_flatten.1 hx
  obtain ⟨p, hp, rfl⟩ := List.mem_map.1 hy
  exact frameOf_byte _ _ x hx
theorem framesOf_64 (m : Int) (l : List (List Od)) : ∀ x ∈ framesOf m l, In64 x := fun x hx => by
  have := framesOf_byte m l x hx
  constructor <;> omega
/-- no frames for lengths that are none -/
theorem framesOf_no {m : Int} (h : ¬ (1 ≤ m ∧ m ≤ 200)) (l : List (List Od)) : framesOf m l = [] := by
  induction l with
  | nil => rfl
  | cons p l ih =>
    have e : framesOf m (p :: l) = frameOf (encodeOf p) m ++ framesOf m l := by simp [framesOf]
    rw [e, ih, frameOf_no (fun h2 => h h2.2)]
    rfl
theorem framesOf_part {m : Int} {l : List (List Od)} {k : Nat} : (framesOf m (l.take k)).length ≤ (framesOf m l).length := by
  have e : framesOf m l = framesOf m (l.take k) ++ framesOf m (l.drop k) := by
    unfold framesOf
    rw [← List.flatten_append, ← List.map_append, List.take_append_drop]
  rw [e, List.length_append]; omega

end Go.Proofs.YtfhmmdiicnfjbaaDoor
