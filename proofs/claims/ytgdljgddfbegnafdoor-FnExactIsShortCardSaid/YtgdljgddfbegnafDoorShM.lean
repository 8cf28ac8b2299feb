/-
  Orders and programs that are short. Plain lemmas, no walk.
-/
import Derived.Test.YtgdljgddfbegnafDoorOpOk
namespace Go.Proofs.YtgdljgddfbegnafDoor

def ShortOp (o : Od) : Prop := o.code = 5 ∨ o.code = 6 ∨ o.code = 9 ∨ o.code = 12
def ShortOk (os : List Od) : Prop := OpsOk os ∧ ∃ o ∈ os, ShortOp o

theorem short_none {os : List Od} (h : ∀ j o, j < os.length → os[j]? = some o → ¬ ShortOp o) : ¬ ∃ o ∈ os, ShortOp o := by
  rintro ⟨o, ho, hs⟩
  obtain ⟨j, hj, rfl⟩ := List.getElem_of_mem ho
  exact h j _ hj (List.getElem?_eq_getElem hj) hs

theorem short_step {os : List Od} {k : Nat} {o : Od} (h : ∀ j p, j < k → os[j]? = some p → ¬ ShortOp p) (hk : os[k]? = some o) (ho : ¬ ShortOp o) : ∀ j p, j < k + 1 → os[j]? = some p → ¬ ShortOp p := by
  intro j p hj hp
  by_cases e : j = k
  · subst e
    obtain rfl := Option.some.inj (hk.symm.trans hp)
    exact ho
  · exact h j p (by omega) hp

end Go.Proofs.YtgdljgddfbegnafDoor
