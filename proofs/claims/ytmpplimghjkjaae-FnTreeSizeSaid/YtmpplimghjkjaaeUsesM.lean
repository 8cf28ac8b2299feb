/-
  How often the nodes of a graph are used: the count. Plain definitions and lemmas, no walk.
-/
import Derived.Test.YtmpplimghjkjaaeReachM
import Derived.Test.YtmpplimghjkjaaePkA
import Derived.Test.YtmpplimghjkjaaeBump
namespace Go.Proofs.Ytmpplimghjkjaae
open Go.RowKit
set_option linter.unusedVariables false

/-- the uses of the nodes: each as often as it is a kid of one of these, and the root once more -/
def usesOf (ns : List Nd) (r : Int) (R : List Int) : List Int := bumps (bump (List.replicate ns.length 0) r) (R.flatMap (kidsOf ns))

theorem flatMap_few {ns : List Nd} (h6 : ∀ n ∈ ns, n.kids.length ≤ 6) (L : List Int) : (L.flatMap (kidsOf ns)).length ≤ 6 * L.length := by
  induction L with
  | nil => simp
  | cons a L ih =>
    have : (kidsOf ns a).length ≤ 6 := by
      unfold kidsOf
      cases h : ns[a.toNat]? with
      | none => simp
      | some n => simpa using h6 n (List.mem_of_getElem? h)
    rw [List.flatMap_cons, List.length_append, List.length_cons]
    omega

theorem made_set (w : World) (n i : Nat) (v z : Value) (t : TypeId) : (w.alloc (.cells ((madeCells #[z] n).setIfInBounds i v) t)).rowIs w.heap.size t n (fun j => if j = i then v else z) := by
  have h0 := (World.rowIs_made w z n t)
  obtain ⟨c, h1, h2, h3⟩ := h0
  have hc : c = madeCells #[z] n := by
    have := Go.Deep.blk_alloc_new w (.cells (madeCells #[z] n) t)
    rw [h1] at this
    injection this with this
    injection this with this
  subst hc
  refine ⟨_, Go.Deep.blk_alloc_new _ _, by simpa using h2, fun j hj => ?_⟩
  rw [Array.getElem?_setIfInBounds]
  by_cases e : i = j
  · subst e
    simp [h2, hj]
  · rw [if_neg e]
    show _ = some (if j = i then v else z)
    rw [if_neg (Ne.symm e)]
    exact h3 j hj

theorem Only.drewN {lo hi : Nat} {w w' : World} (h : Only lo hi w w') (n : Nat) : Only lo hi w (w'.drewN n) := ⟨h.os, h.tape, h.output, h.size, h.block⟩
theorem Only.drew {lo hi : Nat} {w w' : World} (h : Only lo hi w w') : Only lo hi w w'.drew := ⟨h.os, h.tape, h.output, h.size, h.block⟩

theorem take_flat {ns : List Nd} {R : List Int} {k : Nat} {x : Int} (h : R[k]? = some x) : (R.take (k + 1)).flatMap (kidsOf ns) = (R.take k).flatMap (kidsOf ns) ++ kidsOf ns x := by
  rw [List.take_add_one, h, Option.toList_some, List.flatMap_append]
  simp

end Go.Proofs.Ytmpplimghjkjaae
