import Derived.Test.YtaolnnjcpnhghadRuM
namespace Go.Proofs.Ytaolnnjcpnhghad
open Go.RowKit
structure Allow (a b : Ru) : Prop where
  oa : RuOk a
  ob : RuOk b
  s : b.steps ≤ a.steps
  n : b.nodes ≤ a.nodes
  d : b.deep ≤ a.deep
  c : ∀ x ∈ b.cls, x ∈ a.cls
theorem tf_two (P Q : Prop) : tf (P ∧ Q) = (tf P && tf Q) := by
  by_cases hP : P
  · rw [tf_true hP, Bool.true_and]
    exact tf_congr ⟨fun h => h.2, fun h => ⟨hP, h⟩⟩
  · rw [tf_false hP, Bool.false_and]
    exact tf_false fun h => hP h.1
theorem tf_dec (P : Prop) [Decidable P] : tf P = decide P := by
  by_cases hP : P
  · rw [tf_true hP, decide_eq_true hP]
  · rw [tf_false hP, decide_eq_false hP]
theorem allow_and (a b : Ru) : tf (Allow a b) = (tf (RuOk a) && (tf (RuOk b) && (decide (b.steps ≤ a.steps) && (decide (b.nodes ≤ a.nodes) && (decide (b.deep ≤ a.deep) && tf (∀ x ∈ b.cls, x ∈ a.cls)))))) := by
  rw [tf_congr (show Allow a b ↔ (RuOk a ∧ (RuOk b ∧ (b.steps ≤ a.steps ∧ (b.nodes ≤ a.nodes ∧ (b.deep ≤ a.deep ∧ ∀ x ∈ b.cls, x ∈ a.cls))))) from
    ⟨fun h => ⟨h.oa, h.ob, h.s, h.n, h.d, h.c⟩, fun ⟨h1, h2, h3, h4, h5, h6⟩ => ⟨h1, h2, h3, h4, h5, h6⟩⟩)]
  rw [tf_two, tf_two, tf_two, tf_two, tf_two, tf_dec (b.steps ≤ a.steps), tf_dec (b.nodes ≤ a.nodes), tf_dec (b.deep ≤ a.deep)]
theorem all_step {ys xs : List Int} {k : Nat} {x : Int} (he : ∀ j y, j < k → xs[j]? = some y → y ∈ ys) (hx : xs[k]? = some x) (hs : x ∈ ys) : ∀ j y, j < k + 1 → xs[j]? = some y → y ∈ ys := by
  intro j y hj hy
  by_cases e : j = k
  · subst e; rw [hx] at hy; injection hy with hy; subst hy; exact hs
  · exact he j y (by omega) hy
theorem all_end {ys xs : List Int} (he : ∀ j y, j < xs.length → xs[j]? = some y → y ∈ ys) : ∀ x ∈ xs, x ∈ ys := by
  intro x hx
  obtain ⟨j, hj, e⟩ := List.getElem_of_mem hx
  exact he j x hj (by rw [List.getElem?_eq_getElem hj, e])
end Go.Proofs.Ytaolnnjcpnhghad
