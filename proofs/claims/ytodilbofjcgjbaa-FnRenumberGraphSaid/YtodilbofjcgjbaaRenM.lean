/-
  Orders that have each index once, and graphs with new indices: mathematics only.
-/
import Derived.Test.YtodilbofjcgjbaaPickM
import Derived.Test.YtodilbofjcgjbaaNodL
namespace Go.Proofs.Ytodilbofjcgjbaa
open Go.RowKit
set_option linter.unusedVariables false

/-- a list that has each of n indices once -/
structure IsOrd (os : List Int) (n : Nat) : Prop where
  len : os.length = n
  rng : ∀ x ∈ os, 0 ≤ x ∧ x < n
  nd : os.Nodup

/-- the nodes by their new indices -/
def invOf (os : List Int) : List Int := (List.range os.length).map fun (j : Nat) => place os (j : Int)

theorem invOf_len (os : List Int) : (invOf os).length = os.length := by simp [invOf]
theorem invOf_at {os : List Int} {j : Nat} (h : j < os.length) : (invOf os)[j]? = some (place os (j : Int)) := by
  unfold invOf
  rw [List.getElem?_map, List.getElem?_range h]
  rfl

theorem IsOrd.onto {os : List Int} {n : Nat} (h : IsOrd os n) {j : Int} (h0 : 0 ≤ j) (h1 : j < n) : j ∈ os := by
  by_cases hm : j ∈ os
  · exact hm
  · exfalso
    have hup : ((List.range n).map fun (i : Nat) => (i : Int)).length = n := by simp
    have hjm : j ∈ (List.range n).map fun (i : Nat) => (i : Int) := by
      obtain ⟨i, rfl⟩ := Int.eq_ofNat_of_zero_le h0
      exact List.mem_map.2 ⟨i, List.mem_range.2 (by omega), rfl⟩
    have h2 := nodup_le_len os (((List.range n).map fun (i : Nat) => (i : Int)).erase j) h.nd (fun x hx => by
      have hx2 := h.rng x hx
      obtain ⟨i, rfl⟩ := Int.eq_ofNat_of_zero_le hx2.1
      exact (List.mem_erase_of_ne (fun e => hm (by rw [← e]; exact hx))).2 (List.mem_map.2 ⟨i, List.mem_range.2 (by omega), rfl⟩))
    have h3 := List.length_erase_of_mem hjm
    have h4 := h.len
    rw [hup] at h3
    omega

theorem IsOrd.inv {os : List Int} {n : Nat} (h : IsOrd os n) {i : Nat} {x : Int} (hi : os[i]? = some x) : (invOf os)[x.toNat]? = some (i : Int) := by
  have hx := h.rng x (List.mem_of_getElem? hi)
  obtain ⟨j, rfl⟩ := Int.eq_ofNat_of_zero_le hx.1
  rw [Int.toNat_natCast, invOf_at (by rw [h.len]; omega), place_get h.nd hi]

theorem IsOrd.inv_nodup {os : List Int} {n : Nat} (h : IsOrd os n) : (invOf os).Nodup := by
  rw [List.nodup_iff_pairwise_ne, List.pairwise_iff_getElem]
  intro i j hi hj hij e
  rw [invOf_len] at hi hj
  have e1 := invOf_at hi
  have e2 := invOf_at hj
  have hi2 : i < (invOf os).length := by rw [invOf_len]; exact hi
  have hj2 : j < (invOf os).length := by rw [invOf_len]; exact hj
  rw [List.getElem?_eq_getElem hi2] at e1
  rw [List.getElem?_eq_getElem hj2] at e2
  injection e1 with e1
  injection e2 with e2
  have m1 := h.onto (j := (i : Int)) (by omega) (by rw [← h.len]; omega)
  have m2 := h.onto (j := (j : Int)) (by omega) (by rw [← h.len]; omega)
  have := place_inj m1 m2 (e1.symm.trans (e.trans e2))
  omega

theorem IsOrd.place {os : List Int} {n : Nat} (h : IsOrd os n) {i : Nat} {x : Int} (hi : os[i]? = some x) : place (invOf os) (i : Int) = x := by
  have hx := h.rng x (List.mem_of_getElem? hi)
  obtain ⟨j, rfl⟩ := Int.eq_ofNat_of_zero_le hx.1
  have := h.inv hi
  rw [Int.toNat_natCast] at this
  exact place_get h.inv_nodup this

theorem IsOrd.mem {os : List Int} {n : Nat} (h : IsOrd os n) {i : Nat} (hi : i < n) : (i : Int) ∈ invOf os := by
  have hi2 : i < os.length := by rw [h.len]; exact hi
  exact List.mem_of_getElem? (h.inv (List.getElem?_eq_getElem hi2))

theorem IsOrd.pickable {ns : List Nd} {r : Int} {os : List Int} (hv : ValidG ns r) (h : IsOrd os ns.length) : Pickable ns r (invOf os) := by
  have hall : ∀ x : Int, 0 ≤ x → x < ns.length → x ∈ invOf os := by
    intro x h0 h1
    obtain ⟨i, rfl⟩ := Int.eq_ofNat_of_zero_le h0
    exact h.mem (by omega)
  refine ⟨h.inv_nodup, fun x hx => ?_, fun i n hi hn => ⟨?_, fun k hk => ?_⟩, hall r hv.root0 hv.root, by rw [invOf_len, h.len]; exact hv.few, hv.few⟩
  · obtain ⟨j, hj, rfl⟩ := List.mem_map.1 hx
    have hj2 := List.mem_range.1 hj
    have := place_lt (h.onto (j := (j : Int)) (by omega) (by rw [← h.len]; omega))
    rw [h.len] at this
    exact this
  · have := (hv.nodes n (List.mem_of_getElem? hn)).few
    omega
  · have := (hv.nodes n (List.mem_of_getElem? hn)).inn k hk
    exact hall k this.1 this.2

open Classical in
/-- the graph with new indices; none for other arguments -/
noncomputable def renNs (ns : List Nd) (r : Int) (os : List Int) : List Nd := if ValidG ns r ∧ IsOrd os ns.length then pickNs ns (invOf os) else []
open Classical in
noncomputable def renR (ns : List Nd) (r : Int) (os : List Int) : Int := if ValidG ns r ∧ IsOrd os ns.length then Go.Proofs.Ytodilbofjcgjbaa.place (invOf os) r else 0

end Go.Proofs.Ytodilbofjcgjbaa
