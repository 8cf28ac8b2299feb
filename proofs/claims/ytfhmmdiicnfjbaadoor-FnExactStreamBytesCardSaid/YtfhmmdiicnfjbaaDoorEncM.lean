/-
  The bytes of programs: mathematics. Plain lemmas, no walk.
-/
import Derived.Test.YtfhmmdiicnfjbaaDoorPjAb
namespace Go.Proofs.YtfhmmdiicnfjbaaDoor
set_option linter.unusedVariables false

/-- the bytes of an argument -/
def encA (a : Int) : List Int := if a < 128 then [a] else [128 + a % 128, a / 128]
/-- the bytes of an order -/
def encO (o : Od) : List Int := if argMost o.code < 0 then [o.code] else o.code :: encA o.arg
/-- the bytes of orders -/
def encs (os : List Od) : List Int := os.flatMap encO

theorem encA_short {a : Int} (h : a < 128) : encA a = [a] := by unfold encA; rw [if_pos h]
theorem encA_long {a : Int} (h : ¬ a < 128) : encA a = [128 + a % 128, a / 128] := by unfold encA; rw [if_neg h]
theorem encO_bare {o : Od} (h : argMost o.code < 0) : encO o = [o.code] := by unfold encO; rw [if_pos h]
theorem encO_arg {o : Od} (h : ¬ argMost o.code < 0) : encO o = o.code :: encA o.arg := by unfold encO; rw [if_neg h]

theorem encA_len (a : Int) : 1 ≤ (encA a).length ∧ (encA a).length ≤ 2 := by unfold encA; split <;> simp
theorem encO_len (o : Od) : 1 ≤ (encO o).length ∧ (encO o).length ≤ 3 := by
  have := encA_len o.arg
  unfold encO
  split
  · simp
  · simp only [List.length_cons]; omega

theorem encO_byte {o : Od} (h : OdOk o) : ∀ x ∈ encO o, 0 ≤ x ∧ x ≤ 255 := by
  obtain ⟨h1, h2⟩ := h
  have hm := argMost_range o.code
  intro x hx
  unfold encO encA at hx
  split at hx
  · simp at hx; omega
  · split at hx
    · simp at hx
      omega
    · simp at hx
      omega

theorem encs_nil : encs [] = [] := rfl
theorem encs_cons (o : Od) (os : List Od) : encs (o :: os) = encO o ++ encs os := by simp [encs]
theorem encs_append (os ps : List Od) : encs (os ++ ps) = encs os ++ encs ps := by simp [encs]

theorem encs_next {os : List Od} {k : Nat} {o : Od} (h : os[k]? = some o) : encs (os.take (k + 1)) = encs (os.take k) ++ encO o := by
  rw [List.take_add_one, h, encs_append]
  simp [encs]

theorem encs_len (os : List Od) : os.length ≤ (encs os).length ∧ (encs os).length ≤ 3 * os.length := by
  induction os with
  | nil => simp [encs]
  | cons o os ih =>
    have := encO_len o
    rw [encs_cons, List.length_append, List.length_cons]
    omega

theorem encs_byte {os : List Od} (h : ∀ o ∈ os, OdOk o) : ∀ x ∈ encs os, 0 ≤ x ∧ x ≤ 255 := by
  intro x hx
  obtain ⟨o, ho, hx⟩ := List.mem_flatMap.1 hx
  exact encO_byte (h o ho) x hx

open Classical in
/-- what EncodeOps returns -/
noncomputable def encodeOf (os : List Od) : List Int := if OpsOk os then encs os else []

theorem encodeOf_ok {os : List Od} (h : OpsOk os) : encodeOf os = encs os := by unfold encodeOf; rw [if_pos h]
theorem encodeOf_no {os : List Od} (h : ¬ OpsOk os) : encodeOf os = [] := by unfold encodeOf; rw [if_neg h]

theorem encodeOf_byte (os : List Od) : ∀ x ∈ encodeOf os, 0 ≤ x ∧ x ≤ 255 := by
  by_cases h : OpsOk os
  · rw [encodeOf_ok h]; exact encs_byte h.2
  · rw [encodeOf_no h]; intro x hx; cases hx
theorem encodeOf_few {os : List Od} : (encodeOf os).length ≤ 900 := by
  by_cases h : OpsOk os
  · rw [encodeOf_ok h]
    have := (encs_len os).2
    have := h.1
    omega
  · rw [encodeOf_no h]; simp
theorem encodeOf_64 {os : List Od} : ∀ x ∈ encodeOf os, In64 x := fun x hx => by
  have := encodeOf_byte os x hx
  constructor <;> omega

/-- what SizeOf returns -/
noncomputable def sizeOfOps (os : List Od) : Int := @ite _ (OpsOk os) (Classical.propDecidable _) ((encs os).length : Int) (-1)
theorem sizeOfOps_ok {os : List Od} (h : OpsOk os) : sizeOfOps os = ((encs os).length : Int) := by unfold sizeOfOps; rw [if_pos h]
theorem sizeOfOps_no {os : List Od} (h : ¬ OpsOk os) : sizeOfOps os = -1 := by unfold sizeOfOps; rw [if_neg h]

end Go.Proofs.YtfhmmdiicnfjbaaDoor
