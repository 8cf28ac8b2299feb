/-
  A program in parts, each up to and with its next order that stops: mathematics.
-/
import Derived.Test.YtfhmmdiicnfjbaaDoorOd
namespace Go.Proofs.YtfhmmdiicnfjbaaDoor
set_option linter.unusedVariables false

/-- the parts of what follows, where a part has begun -/
def splitAux : List Od → List Od → List (List Od)
  | part, [] => if part = [] then [] else [part]
  | part, o :: os => if o.code = 19 then (part ++ [o]) :: splitAux [] os else splitAux (part ++ [o]) os
def splitStops (os : List Od) : List (List Od) := splitAux [] os

theorem splitAux_stop {part : List Od} {o : Od} {os : List Od} (h : o.code = 19) : splitAux part (o :: os) = (part ++ [o]) :: splitAux [] os := by rw [splitAux, if_pos h]
theorem splitAux_go {part : List Od} {o : Od} {os : List Od} (h : o.code ≠ 19) : splitAux part (o :: os) = splitAux (part ++ [o]) os := by rw [splitAux, if_neg h]
theorem splitAux_end {part : List Od} (h : part ≠ []) : splitAux part [] = [part] := by rw [splitAux, if_neg h]
theorem splitAux_nil : splitAux [] [] = [] := rfl

theorem splitAux_ne : ∀ (os part : List Od), ∀ p ∈ splitAux part os, p ≠ []
  | [], part, p, hp => by
    unfold splitAux at hp
    split at hp
    · cases hp
    · next h => simp at hp; subst hp; exact h
  | o :: os, part, p, hp => by
    unfold splitAux at hp
    split at hp
    · rcases List.mem_cons.1 hp with rfl | hp
      · simp
      · exact splitAux_ne os [] p hp
    · exact splitAux_ne os _ p hp
theorem splitAux_join : ∀ (os part : List Od), (splitAux part os).flatten = part ++ os
  | [], part => by
    unfold splitAux
    split
    · next h => simp [h]
    · simp
  | o :: os, part => by
    unfold splitAux
    split
    · simp [splitAux_join os []]
    · rw [splitAux_join os]; simp
theorem splitStops_join (os : List Od) : (splitStops os).flatten = os := by unfold splitStops; simpa using splitAux_join os []
theorem flat_len {l : List (List Od)} (h : ∀ p ∈ l, p ≠ []) : l.length ≤ l.flatten.length := by
  induction l with
  | nil => simp
  | cons a l ih =>
    have h1 := h a (by simp)
    have h2 := ih (fun p hp => h p (by simp [hp]))
    have h3 : 0 < a.length := by cases a with
      | nil => exact absurd rfl h1
      | cons => simp
    rw [List.flatten_cons, List.length_append, List.length_cons]; omega
theorem flat_part {l : List (List Od)} {p : List Od} (h : p ∈ l) : p.length ≤ l.flatten.length := by
  induction l with
  | nil => cases h
  | cons a l ih =>
    rw [List.flatten_cons, List.length_append]
    rcases List.mem_cons.1 h with rfl | h
    · omega
    · have := ih h; omega
theorem splitStops_few (os : List Od) : (splitStops os).length ≤ os.length := by
  have := flat_len (l := splitStops os) (splitAux_ne os [])
  rwa [splitStops_join] at this
theorem splitStops_part {os p : List Od} (h : p ∈ splitStops os) : p.length ≤ os.length ∧ ∀ o ∈ p, o ∈ os := by
  have h1 := flat_part h
  rw [splitStops_join] at h1
  refine ⟨h1, fun o ho => ?_⟩
  have : o ∈ (splitStops os).flatten := List.mem_flatten.2 ⟨p, h, ho⟩
  rwa [splitStops_join] at this

end Go.Proofs.YtfhmmdiicnfjbaaDoor
