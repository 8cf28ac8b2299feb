/-
  Lemmas, several texts in one: MrgM, ShcM, MrgN.
-/
import Derived.Test.YtdgmohebnkcohaaPjAf
import Derived.Test.YtdgmohebnkcohaaSpecE
import Derived.Test.YtdgmohebnkcohaaRowD
import Derived.Test.YtdgmohebnkcohaaPjAb
import Derived.Test.YtdgmohebnkcohaaPjAc
namespace Go.Proofs.Ytdgmohebnkcohaa
open Go.RowKit Go.Maps
set_option linter.unusedVariables false

/-- a text of a value -/
def IsTx (v : Int) (m : Nd) : Prop := m.kind = 1 ∧ m.value = v
instance (v : Int) (m : Nd) : Decidable (IsTx v m) := inferInstanceAs (Decidable (_ ∧ _))
def firstT (ns : List Nd) (v : Int) : Nat := ns.findIdx (fun m => decide (IsTx v m))

theorem firstT_is {ns : List Nd} {v : Int} {j : Nat} {m : Nd} (hj : ns[j]? = some m) (hm : IsTx v m) (hf : ∀ (k : Nat) (q : Nd), k < j → ns[k]? = some q → ¬ IsTx v q) : firstT ns v = j := by
  obtain ⟨hl, he⟩ := List.getElem?_eq_some_iff.1 hj
  unfold firstT
  rw [List.findIdx_eq hl]
  refine ⟨by rw [he]; exact decide_eq_true hm, fun k hk => ?_⟩
  exact decide_eq_false (hf k _ hk (List.getElem?_eq_getElem (by omega)))

theorem firstT_le {ns : List Nd} {v : Int} {j : Nat} {m : Nd} (hj : ns[j]? = some m) (hm : IsTx v m) : firstT ns v ≤ j := by
  obtain ⟨hl, he⟩ := List.getElem?_eq_some_iff.1 hj
  apply Nat.le_of_not_lt
  intro h
  have := List.not_of_lt_findIdx (p := fun m => decide (IsTx v m)) h
  rw [he] at this
  simp [hm] at this

/-- the first one of the texts that are equal to a node, or the node itself -/
def ftx (ns : List Nd) (i : Nat) : Int := match ns[i]? with
  | some n => if n.kind = 1 then (firstT ns n.value : Int) else (i : Int)
  | none => (i : Int)
theorem ftx_text {ns : List Nd} {i : Nat} {n : Nd} (h : ns[i]? = some n) (hk : n.kind = 1) : ftx ns i = (firstT ns n.value : Int) := by
  unfold ftx
  rw [h]
  simp only
  rw [if_pos hk]
theorem ftx_else {ns : List Nd} {i : Nat} {n : Nd} (h : ns[i]? = some n) (hk : ¬ n.kind = 1) : ftx ns i = (i : Int) := by
  unfold ftx
  rw [h]
  simp only
  rw [if_neg hk]
theorem ftx_range {ns : List Nd} {i : Nat} (hi : i < ns.length) : 0 ≤ ftx ns i ∧ ftx ns i ≤ i := by
  have h : ns[i]? = some ns[i] := List.getElem?_eq_getElem hi
  by_cases hk : ns[i].kind = 1
  · rw [ftx_text h hk]
    have := firstT_le h ⟨hk, rfl⟩
    omega
  · rw [ftx_else h hk]; omega

def txtCl (ns : List Nd) : List Int := (List.range ns.length).map (ftx ns)
theorem txtCl_len (ns : List Nd) : (txtCl ns).length = ns.length := by simp [txtCl]
theorem txtCl_at {ns : List Nd} {i : Nat} (hi : i < ns.length) : (txtCl ns)[i]? = some (ftx ns i) := by
  unfold txtCl
  rw [List.getElem?_map, List.getElem?_range hi]
  rfl
theorem txtCl_64 {ns : List Nd} (hl : ns.length ≤ 1000) : ∀ x ∈ txtCl ns, In64 x := by
  intro x hx
  obtain ⟨i, hi, rfl⟩ := List.mem_map.1 hx
  have := ftx_range (List.mem_range.1 hi)
  have := List.mem_range.1 hi
  constructor <;> omega

open Classical in
/-- the graph in which equal texts are one node -/
noncomputable def mrgN (ns : List Nd) (r : Int) : List Nd := if ValidG ns r then replNs ns (txtCl ns) else []
open Classical in
noncomputable def mrgR (ns : List Nd) (r : Int) : Int := if ValidG ns r then look (txtCl ns) r else 0
theorem mrgN_yes {ns : List Nd} {r : Int} (h : ValidG ns r) : mrgN ns r = replNs ns (txtCl ns) := if_pos h
theorem mrgR_yes {ns : List Nd} {r : Int} (h : ValidG ns r) : mrgR ns r = look (txtCl ns) r := if_pos h
theorem mrgN_no {ns : List Nd} {r : Int} (h : ¬ ValidG ns r) : mrgN ns r = [] := if_neg h
theorem mrgR_no {ns : List Nd} {r : Int} (h : ¬ ValidG ns r) : mrgR ns r = 0 := if_neg h

end Go.Proofs.Ytdgmohebnkcohaa

namespace Go.Proofs.Ytdgmohebnkcohaa
open Go.RowKit
set_option linter.unusedVariables false

/-- the root's node once more behind the others -/
def rootNd (ns : List Nd) (r : Int) : Nd := (ns[r.toNat]?).getD ⟨0, 0, []⟩
theorem rootNd_at {ns : List Nd} {i : Nat} {n : Nd} (h : ns[i]? = some n) : rootNd ns (i : Int) = n := by
  unfold rootNd
  rw [Int.toNat_natCast, h]
  rfl

open Classical in
noncomputable def shalN (ns : List Nd) (r : Int) : List Nd := if ValidG ns r ∧ ns.length ≠ 12 then ns ++ [rootNd ns r] else []
open Classical in
noncomputable def shalR (ns : List Nd) (r : Int) : Int := if ValidG ns r ∧ ns.length ≠ 12 then (ns.length : Int) else 0

theorem shalN_yes {ns : List Nd} {r : Int} (h : ValidG ns r) (h2 : ns.length ≠ 12) : shalN ns r = ns ++ [rootNd ns r] := if_pos ⟨h, h2⟩
theorem shalR_yes {ns : List Nd} {r : Int} (h : ValidG ns r) (h2 : ns.length ≠ 12) : shalR ns r = ns.length := if_pos ⟨h, h2⟩
theorem shalN_no {ns : List Nd} {r : Int} (h : ¬ (ValidG ns r ∧ ns.length ≠ 12)) : shalN ns r = [] := if_neg h
theorem shalR_no {ns : List Nd} {r : Int} (h : ¬ (ValidG ns r ∧ ns.length ≠ 12)) : shalR ns r = 0 := if_neg h

end Go.Proofs.Ytdgmohebnkcohaa

namespace Go.Proofs.Ytdgmohebnkcohaa
open Go.RowKit
set_option linter.unusedVariables false

theorem replNs_smallN {ns : List Nd} {r : Int} (h : ValidG ns r) (cl : List Int) : SmallN (replNs ns cl) := by
  have hf := h.few
  refine ⟨by rw [replNs_len]; omega, fun n hn => ?_⟩
  obtain ⟨m, hm, rfl⟩ := List.mem_map.1 hn
  have := (h.nodes m hm).few
  simp [replNd]
  omega

theorem mrgN_smallN (ns : List Nd) (r : Int) : SmallN (mrgN ns r) := by
  by_cases h : ValidG ns r
  · rw [mrgN_yes h]; exact replNs_smallN h _
  · rw [mrgN_no h]; exact ⟨by simp, fun n hn => by simp at hn⟩

theorem mrgN_wf {ns : List Nd} (r : Int) (hw : WfN ns) : WfN (mrgN ns r) := by
  by_cases h : ValidG ns r
  · rw [mrgN_yes h]
    intro n hn
    obtain ⟨m, hm, rfl⟩ := List.mem_map.1 hn
    obtain ⟨a1, a2, a3, a4⟩ := hw m hm
    refine ⟨a1, a2, fun x hx => ?_, by simpa [replNd] using a4⟩
    obtain ⟨k, hk, rfl⟩ := List.mem_map.1 (show x ∈ m.kids.map (look (txtCl ns)) from hx)
    have h2 := (h.nodes m hm).inn k hk
    exact txtCl_64 (by have := h.few; omega) _ (look_mem h2.1 (by rw [txtCl_len]; omega))
  · rw [mrgN_no h]
    intro n hn
    simp at hn

end Go.Proofs.Ytdgmohebnkcohaa
