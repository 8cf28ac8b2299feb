/-
  The places of the memo that a program puts something into. Plain lemmas, no walk.
-/
import Derived.Test.YtgdljgddfbegnaeDoorOpOk
namespace Go.Proofs.YtgdljgddfbegnaeDoor
set_option linter.unusedVariables false

/-- the places met so far, and that of an order more -/
def addPlace (L : List Int) (o : Od) : List Int := if o.code = 15 ∧ o.arg ∉ L then L ++ [o.arg] else L
def placesTo (os : List Od) (k : Nat) : List Int := (os.take k).foldl addPlace []

theorem placesTo_zero (os : List Od) : placesTo os 0 = [] := by simp [placesTo]
theorem placesTo_succ {os : List Od} {k : Nat} {o : Od} (h : os[k]? = some o) : placesTo os (k + 1) = addPlace (placesTo os k) o := by
  unfold placesTo
  rw [List.take_add_one, h]
  simp
theorem addPlace_no {L : List Int} {o : Od} (h : o.code ≠ 15) : addPlace L o = L := by unfold addPlace; rw [if_neg (fun e => h e.1)]
theorem addPlace_old {L : List Int} {o : Od} (h : o.arg ∈ L) : addPlace L o = L := by unfold addPlace; rw [if_neg (fun e => e.2 h)]
theorem addPlace_new {L : List Int} {o : Od} (h : o.code = 15) (h2 : o.arg ∉ L) : addPlace L o = L ++ [o.arg] := by unfold addPlace; rw [if_pos ⟨h, h2⟩]

theorem foldPlace_len (os : List Od) (L : List Int) : (os.foldl addPlace L).length ≤ L.length + os.length := by
  induction os generalizing L with
  | nil => simp
  | cons o os ih =>
    rw [List.foldl_cons]
    refine Nat.le_trans (ih _) ?_
    have : (addPlace L o).length ≤ L.length + 1 := by unfold addPlace; split <;> simp
    simp
    omega
theorem placesTo_len (os : List Od) (k : Nat) : (placesTo os k).length ≤ os.length := by
  have h := foldPlace_len (os.take k) []
  have : (os.take k).length ≤ os.length := by rw [List.length_take]; omega
  unfold placesTo
  simp only [List.length_nil] at h
  omega
theorem foldPlace_mem (os : List Od) (L : List Int) : ∀ x ∈ os.foldl addPlace L, x ∈ L ∨ ∃ o ∈ os, x = o.arg := by
  induction os generalizing L with
  | nil => intro x hx; exact .inl hx
  | cons o os ih =>
    intro x hx
    rw [List.foldl_cons] at hx
    rcases ih _ x hx with h | ⟨p, hp, rfl⟩
    · unfold addPlace at h
      split at h
      · rcases List.mem_append.1 h with h | h
        · exact .inl h
        · simp at h; exact .inr ⟨o, by simp, h⟩
      · exact .inl h
    · exact .inr ⟨p, by simp [hp], rfl⟩
theorem placesTo_64 {os : List Od} (h : ∀ o ∈ os, In64 o.code ∧ In64 o.arg) (k : Nat) : ∀ x ∈ placesTo os k, In64 x := by
  intro x hx
  rcases foldPlace_mem _ _ x hx with h2 | ⟨o, ho, rfl⟩
  · cases h2
  · exact (h o (List.mem_of_mem_take ho)).2

open Classical in
noncomputable def placesOf (os : List Od) : Int := if OpsOk os then ((placesTo os os.length).length : Int) else -1

theorem placesOf_ok {os : List Od} (h : OpsOk os) : placesOf os = ((placesTo os os.length).length : Int) := by unfold placesOf; rw [if_pos h]
theorem placesOf_no {os : List Od} (h : ¬ OpsOk os) : placesOf os = -1 := by unfold placesOf; rw [if_neg h]

end Go.Proofs.YtgdljgddfbegnaeDoor
