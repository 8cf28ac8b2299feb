/-
  Lemmas, several texts in one: ClsO, ReachM, OwnRD, ShcM.
-/
import Derived.Test.YtcblcmdfeoijpabPjAg
import Derived.Test.YtcblcmdfeoijpabSpecE
import Derived.Test.YtcblcmdfeoijpabPjAf
import Derived.Test.YtcblcmdfeoijpabPjAd
import Derived.Test.YtcblcmdfeoijpabPjAi
namespace Go.Proofs.Ytcblcmdfeoijpab
open Go.RowKit Go.Maps
set_option linter.unusedVariables false

open Classical in
/-- the class of each node of a valid graph; nothing for another one -/
noncomputable def clsOf (ns : List Nd) (r : Int) : List Int := if ValidG ns r then clsN ns ns.length else []
theorem cls_yes {ns : List Nd} {r : Int} (h : ValidG ns r) : clsOf ns r = clsN ns ns.length := by unfold clsOf; rw [if_pos h]
theorem cls_no {ns : List Nd} {r : Int} (h : ¬ ValidG ns r) : clsOf ns r = [] := by unfold clsOf; rw [if_neg h]
theorem validG_kids {ns : List Nd} {r : Int} (h : ValidG ns r) : KidsIn ns := fun n hn => (h.nodes n hn).inn
theorem clsOf_few {ns : List Nd} {r : Int} : (clsOf ns r).length ≤ 12 := by
  by_cases h : ValidG ns r
  · rw [cls_yes h, clsN_len]; exact h.few
  · rw [cls_no h]; simp
theorem clsOf_64 {ns : List Nd} {r : Int} : ∀ x ∈ clsOf ns r, In64 x := by
  by_cases h : ValidG ns r
  · rw [cls_yes h]
    intro x hx
    have := clsN_in ns _ x hx
    have := h.few
    constructor <;> omega
  · rw [cls_no h]; simp

end Go.Proofs.Ytcblcmdfeoijpab

namespace Go.Proofs.Ytcblcmdfeoijpab
open Go.RowKit
set_option linter.unusedVariables false

/-- every node may be entered -/
def anyB (x : Int) : Bool := true

theorem kidsIn_of_valid {ns : List Nd} {r : Int} (h : ValidG ns r) : KidsIn ns := fun n hn => (h.nodes n hn).inn

theorem in64_met {ns : List Nd} {L : List Int} (h12 : ns.length ≤ 12) (h : Met ns L) : ∀ x ∈ L, In64 x := in64_of_range h12 h.range

open Classical in
/-- the nodes that are reached from the root of a valid graph; none for another one -/
noncomputable def reachOf (ns : List Nd) (r : Int) : List Int := if ValidG ns r then dfs ns anyB (ns.length + 1) r [] else []

theorem reachOf_met {ns : List Nd} {r : Int} : Met ns (reachOf ns r) := by
  unfold reachOf
  split
  next h => exact dfs_met ns anyB (kidsIn_of_valid h) _ _ _ (Met.nil ns) ⟨h.root0, h.root⟩
  next => exact Met.nil ns

theorem reachOf_few {ns : List Nd} {r : Int} : (reachOf ns r).length ≤ 12 := by
  unfold reachOf
  split
  next h => exact Nat.le_trans (dfs_met ns anyB (kidsIn_of_valid h) _ _ _ (Met.nil ns) ⟨h.root0, h.root⟩).len h.few
  next => simp

end Go.Proofs.Ytcblcmdfeoijpab

namespace Go.Proofs.Ytcblcmdfeoijpab
open Go.RowKit
set_option linter.unusedVariables false

theorem OwnRow.rowD {w : World} {lo hi g cap : Nat} {ns : List Nd} (h : OwnRow w lo hi g cap ns) (hc : cap ≤ maxLen) : RowD w lo hi (some ⟨g, 0, none⟩) cap ns := by
  obtain ⟨f, cur, h1, h2, h3⟩ := h.row
  have hle := h.le
  have hat : ∀ i, i < ns.length * 3 → (cur.toList.take (ns.length * 3))[i]? = w.cell? ⟨g, i, none⟩ := fun i hi => by
    rw [List.getElem?_take_of_lt hi, Array.getElem?_toList, cell_of_row w g i cur _ _ h1]
  refine ⟨⟨cur.toList.take (ns.length * 3), ⟨by simp; omega, .inr ⟨g, cap, cur, rfl, h.hlo, h1, hle, hc, h2, rfl⟩⟩, fun j n hj => ?_, fun i j A1 A2 n1 n2 c1 c2 hij hj d1 d2 => ?_, fun i A1 n1 c1 hi d1 b hb => ?_⟩⟩
  · have hjl := (List.getElem?_eq_some_iff.1 hj).1
    have hn := h.nd j n hj
    obtain ⟨A1, c1, k1, k2, _⟩ := hn.kids
    exact ⟨A1, c1, (hat _ (by omega)).trans hn.kind, (hat _ (by omega)).trans hn.value, (hat _ (by omega)).trans k1, k2⟩
  · rw [hat _ (by omega)] at d1 d2
    exact h.dis i j A1 A2 n1 n2 c1 c2 (by omega) (by omega) hj d1 d2
  · rw [hat _ (by omega)] at d1
    obtain ⟨A3, c3, k1, _, k3⟩ := (h.nd i _ (List.getElem?_eq_getElem hi)).kids
    rw [d1] at k1
    injection k1 with k1
    injection k1 with k1 _ _
    subst k1
    exact (k3 b hb).1

end Go.Proofs.Ytcblcmdfeoijpab

namespace Go.Proofs.Ytcblcmdfeoijpab
open Go.RowKit
set_option linter.unusedVariables false

/-- the root's node once more behind the others -/
def rootNd (ns : List Nd) (r : Int) : Nd := (ns[r.toNat]?).getD ⟨0, 0, []⟩
theorem rootNd_at {ns : List Nd} {i : Nat} {n : Nd} (h : ns[i]? = some n) : rootNd ns (i : Int) = n := by
  unfold rootNd
  rw [Int.toNat_natCast, h]
  rfl

open Classical in
noncomputable def shalN (ns : List Nd) (r : Int) : List Nd := if ValidG ns r ∧ ns.length ≠ 12 then ns ++ [rootNd ns r] else []
open Classical in
noncomputable def shalR (ns : List Nd) (r : Int) : Int := if ValidG ns r ∧ ns.length ≠ 12 then (ns.length : Int) else 0

theorem shalN_yes {ns : List Nd} {r : Int} (h : ValidG ns r) (h2 : ns.length ≠ 12) : shalN ns r = ns ++ [rootNd ns r] := if_pos ⟨h, h2⟩
theorem shalR_yes {ns : List Nd} {r : Int} (h : ValidG ns r) (h2 : ns.length ≠ 12) : shalR ns r = ns.length := if_pos ⟨h, h2⟩
theorem shalN_no {ns : List Nd} {r : Int} (h : ¬ (ValidG ns r ∧ ns.length ≠ 12)) : shalN ns r = [] := if_neg h
theorem shalR_no {ns : List Nd} {r : Int} (h : ¬ (ValidG ns r ∧ ns.length ≠ 12)) : shalR ns r = 0 := if_neg h

end Go.Proofs.Ytcblcmdfeoijpab
