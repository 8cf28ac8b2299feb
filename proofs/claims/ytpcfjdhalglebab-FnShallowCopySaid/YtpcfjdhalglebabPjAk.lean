/-
  Lemmas, several texts in one: ReachM, SigM, ClsO, EqdM.
-/
import Derived.Test.YtpcfjdhalglebabPjAg
import Derived.Test.YtpcfjdhalglebabSpecE
import Derived.Test.YtpcfjdhalglebabDfs
import Derived.Test.YtpcfjdhalglebabEqvM
import Derived.Test.YtpcfjdhalglebabPjAi
namespace Go.Proofs.Ytpcfjdhalglebab
open Go.RowKit
set_option linter.unusedVariables false

/-- every node may be entered -/
def anyB (x : Int) : Bool := true

theorem kidsIn_of_valid {ns : List Nd} {r : Int} (h : ValidG ns r) : KidsIn ns := fun n hn => (h.nodes n hn).inn

theorem in64_met {ns : List Nd} {L : List Int} (h12 : ns.length ≤ 12) (h : Met ns L) : ∀ x ∈ L, In64 x := in64_of_range h12 h.range

open Classical in
/-- the nodes that are reached from the root of a valid graph; none for another one -/
noncomputable def reachOf (ns : List Nd) (r : Int) : List Int := if ValidG ns r then dfs ns anyB (ns.length + 1) r [] else []

theorem reachOf_met {ns : List Nd} {r : Int} : Met ns (reachOf ns r) := by
  unfold reachOf
  split
  next h => exact dfs_met ns anyB (kidsIn_of_valid h) _ _ _ (Met.nil ns) ⟨h.root0, h.root⟩
  next => exact Met.nil ns

theorem reachOf_few {ns : List Nd} {r : Int} : (reachOf ns r).length ≤ 12 := by
  unfold reachOf
  split
  next h => exact Nat.le_trans (dfs_met ns anyB (kidsIn_of_valid h) _ _ _ (Met.nil ns) ⟨h.root0, h.root⟩).len h.few
  next => simp

end Go.Proofs.Ytpcfjdhalglebab

namespace Go.Proofs.Ytpcfjdhalglebab
open Go.RowKit
set_option linter.unusedVariables false

/-- nodes that look alike without their kids -/
def Alike (m n : Nd) : Prop := m.kind = n.kind ∧ m.value = n.value ∧ m.kids.length = n.kids.length

theorem sig_alike {cl : List Int} {n m : Nd} (ha : Alike n m) (h : ∀ (j : Nat) (x y : Int), n.kids[j]? = some x → m.kids[j]? = some y → look cl x = look cl y) : sigOf cl n = sigOf cl m := by
  unfold sigOf
  rw [ha.1, ha.2.1]
  congr 2
  apply List.ext_getElem?
  intro j
  rw [List.getElem?_map, List.getElem?_map]
  have hlen := ha.2.2
  by_cases hj : j < n.kids.length
  · have hx : n.kids[j]? = some n.kids[j] := List.getElem?_eq_getElem hj
    have hy : m.kids[j]? = some m.kids[j] := List.getElem?_eq_getElem (by have := ha.2.2; omega)
    rw [hx, hy]
    simp only [Option.map_some]
    rw [h j _ _ hx hy]
  · rw [List.getElem?_eq_none (by omega), List.getElem?_eq_none (by have := ha.2.2; omega)]

theorem alike_sig {cl : List Int} {n m : Nd} (h : sigOf cl n = sigOf cl m) : Alike n m ∧ ∀ (j : Nat) (x y : Int), n.kids[j]? = some x → m.kids[j]? = some y → look cl x = look cl y := by
  unfold sigOf at h
  simp only [Prod.mk.injEq] at h
  obtain ⟨h1, h2, h3⟩ := h
  refine ⟨⟨h1, h2, by have := congrArg List.length h3; simpa using this⟩, fun j x y hx hy => ?_⟩
  have := congrArg (fun l => l[j]?) h3
  simp only [List.getElem?_map, hx, hy, Option.map_some] at this
  injection this

theorem look_in {cl : List Int} {x : Int} (h0 : 0 ≤ x) (h1 : x < cl.length) : cl[x.toNat]? = some (look cl x) := by
  obtain ⟨i, rfl⟩ := Int.eq_ofNat_of_zero_le h0
  have : cl[i]? = some cl[i] := List.getElem?_eq_getElem (by omega)
  rw [look_at this, Int.toNat_natCast, this]

end Go.Proofs.Ytpcfjdhalglebab

namespace Go.Proofs.Ytpcfjdhalglebab
open Go.RowKit Go.Maps
set_option linter.unusedVariables false

open Classical in
/-- the class of each node of a valid graph; nothing for another one -/
noncomputable def clsOf (ns : List Nd) (r : Int) : List Int := if ValidG ns r then clsN ns ns.length else []
theorem cls_yes {ns : List Nd} {r : Int} (h : ValidG ns r) : clsOf ns r = clsN ns ns.length := by unfold clsOf; rw [if_pos h]
theorem cls_no {ns : List Nd} {r : Int} (h : ¬ ValidG ns r) : clsOf ns r = [] := by unfold clsOf; rw [if_neg h]
theorem validG_kids {ns : List Nd} {r : Int} (h : ValidG ns r) : KidsIn ns := fun n hn => (h.nodes n hn).inn
theorem clsOf_few {ns : List Nd} {r : Int} : (clsOf ns r).length ≤ 12 := by
  by_cases h : ValidG ns r
  · rw [cls_yes h, clsN_len]; exact h.few
  · rw [cls_no h]; simp
theorem clsOf_64 {ns : List Nd} {r : Int} : ∀ x ∈ clsOf ns r, In64 x := by
  by_cases h : ValidG ns r
  · rw [cls_yes h]
    intro x hx
    have := clsN_in ns _ x hx
    have := h.few
    constructor <;> omega
  · rw [cls_no h]; simp

end Go.Proofs.Ytpcfjdhalglebab

namespace Go.Proofs.Ytpcfjdhalglebab
open Go.RowKit Go.Maps
set_option linter.unusedVariables false

theorem joinNs_kids {ns ms : List Nd} (hn : KidsIn ns) (hm : KidsIn ms) : KidsIn (joinNs ns ms) := by
  intro n h k hk
  rw [joinNs_len]
  unfold joinNs at h
  rcases List.mem_append.1 h with h | h
  · have := hn n h k hk
    omega
  · obtain ⟨m, h1, rfl⟩ := List.mem_map.1 h
    obtain ⟨x, h2, rfl⟩ := List.mem_map.1 (show k ∈ m.kids.map (fun k => (ns.length : Int) + k) from hk)
    have := hm m h1 x h2
    omega

/-- the roots are in one class up to a depth -/
def RootsEq (ns : List Nd) (r : Int) (ms : List Nd) (s : Int) (d : Nat) : Prop := look (clsN (joinNs ns ms) d) r = look (clsN (joinNs ns ms) d) ((ns.length : Int) + s)
/-- the roots of valid graphs are equal however deep -/
def EqDeepG (ns : List Nd) (r : Int) (ms : List Nd) (s : Int) : Prop := ValidG ns r ∧ ValidG ms s ∧ RootsEq ns r ms s (joinNs ns ms).length
/-- .. up to a depth -/
def EqToG (ns : List Nd) (r : Int) (ms : List Nd) (s d : Int) : Prop := ValidG ns r ∧ ValidG ms s ∧ 0 ≤ d ∧ d ≤ 8 ∧ RootsEq ns r ms s d.toNat

theorem RootsEq.tf_def (ns : List Nd) (r : Int) (ms : List Nd) (s : Int) (d : Nat) : decide (look (clsN (joinNs ns ms) d) r = look (clsN (joinNs ns ms) d) ((ns.length : Int) + s)) = tf (RootsEq ns r ms s d) := by
  by_cases h : RootsEq ns r ms s d
  · rw [tf_true h]; exact decide_eq_true h
  · rw [tf_false h]; exact decide_eq_false h

theorem joined_small {ns ms : List Nd} {r s : Int} (hv : ValidG ns r) (hw : ValidG ms s) : (joinNs ns ms).length ≤ 24 := by
  have := hv.few
  have := hw.few
  rw [joinNs_len]
  omega

end Go.Proofs.Ytpcfjdhalglebab
