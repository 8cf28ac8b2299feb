/-
  The pruned graph is small.
-/
import Derived.Test.YtmpplimghjkjaadPrunI
import Derived.Test.YtmpplimghjkjaadSmN
namespace Go.Proofs.Ytmpplimghjkjaad
open Go.RowKit
set_option linter.unusedVariables false

theorem prunedOf_smallN (ns : List Nd) (r : Int) : SmallN (prunedOf ns r) := by
  unfold prunedOf
  split
  · next hv =>
    have hp := reach_pickable hv
    refine ⟨by rw [pickNs_len]; have := @reachOf_few ns r; omega, fun n hn => ?_⟩
    obtain ⟨x, hx, rfl⟩ := List.mem_map.1 hn
    have hR := reachOf_reached hv
    obtain ⟨h0, h1⟩ := hR.met.range x hx
    obtain ⟨i, rfl⟩ := Int.eq_ofNat_of_zero_le h0
    have hi : i < ns.length := by omega
    rw [pickN_at (List.getElem?_eq_getElem hi)]
    have := (hv.nodes _ (List.getElem_mem hi)).few
    simp
    omega
  · exact ⟨by simp, fun n hn => by simp at hn⟩

end Go.Proofs.Ytmpplimghjkjaad
