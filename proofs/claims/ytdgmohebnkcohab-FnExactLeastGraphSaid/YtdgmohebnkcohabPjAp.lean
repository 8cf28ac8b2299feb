/-
  Lemmas, several texts in one: PrSm, LstM.
-/
import Derived.Test.YtdgmohebnkcohabPjAo
import Derived.Test.YtdgmohebnkcohabPjAf
import Derived.Test.YtdgmohebnkcohabPjAl
namespace Go.Proofs.Ytdgmohebnkcohab
open Go.RowKit
set_option linter.unusedVariables false

theorem prunedOf_smallN (ns : List Nd) (r : Int) : SmallN (prunedOf ns r) := by
  unfold prunedOf
  split
  · next hv =>
    have hp := reach_pickable hv
    refine ⟨by rw [pickNs_len]; have := @reachOf_few ns r; omega, fun n hn => ?_⟩
    obtain ⟨x, hx, rfl⟩ := List.mem_map.1 hn
    have hR := reachOf_reached hv
    obtain ⟨h0, h1⟩ := hR.met.range x hx
    obtain ⟨i, rfl⟩ := Int.eq_ofNat_of_zero_le h0
    have hi : i < ns.length := by omega
    rw [pickN_at (List.getElem?_eq_getElem hi)]
    have := (hv.nodes _ (List.getElem_mem hi)).few
    simp
    omega
  · exact ⟨by simp, fun n hn => by simp at hn⟩

end Go.Proofs.Ytdgmohebnkcohab

namespace Go.Proofs.Ytdgmohebnkcohab
open Go.RowKit Go.Maps
set_option linter.unusedVariables false

open Classical in
noncomputable def lstN (ns : List Nd) (r : Int) : List Nd := if ValidG ns r then prunedOf (replNs ns (clsN ns ns.length)) (look (clsN ns ns.length) r) else []
theorem lstN_yes {ns : List Nd} {r : Int} (h : ValidG ns r) : lstN ns r = prunedOf (replNs ns (clsN ns ns.length)) (look (clsN ns ns.length) r) := if_pos h
theorem lstN_no {ns : List Nd} {r : Int} (h : ¬ ValidG ns r) : lstN ns r = [] := if_neg h
theorem lstN_smallN (ns : List Nd) (r : Int) : SmallN (lstN ns r) := by
  by_cases h : ValidG ns r
  · rw [lstN_yes h]; exact prunedOf_smallN _ _
  · rw [lstN_no h]; exact ⟨by simp, fun n hn => by simp at hn⟩

theorem least_valid {ns : List Nd} {r : Int} (h : ValidG ns r) : ValidG (replNs ns (clsN ns ns.length)) (look (clsN ns ns.length) r) := repl_valid h (cong_cls (validG_kids h))

theorem clsN_64 {ns : List Nd} {d : Nat} (hl : ns.length ≤ 1000) : ∀ x ∈ clsN ns d, In64 x := fun x hx => by
  have := clsN_in ns d x hx
  constructor <;> omega

theorem replNs_wf {ns : List Nd} {cl : List Int} (hw : WfN ns) (hk : KidsIn ns) (hl : cl.length = ns.length) (h64 : ∀ x ∈ cl, In64 x) : WfN (replNs ns cl) := by
  intro n hn
  obtain ⟨m, hm, rfl⟩ := List.mem_map.1 hn
  obtain ⟨a1, a2, a3, a4⟩ := hw m hm
  refine ⟨a1, a2, fun x hx => ?_, by simpa [replNd] using a4⟩
  obtain ⟨k, hkm, rfl⟩ := List.mem_map.1 (show x ∈ m.kids.map (look cl) from hx)
  have h2 := hk m hm k hkm
  exact h64 _ (look_mem h2.1 (by rw [hl]; exact h2.2))

end Go.Proofs.Ytdgmohebnkcohab
