/-
  Lemmas, several texts in one: PickM, RenM.
-/
import Derived.Test.YtcahmcnppamebacPickG
import Derived.Test.YtcahmcnppamebacIso
import Derived.Test.YtcahmcnppamebacPjAi
namespace Go.Proofs.Ytcahmcnppamebac
open Go.RowKit
set_option linter.unusedVariables false

theorem pick_at {ns : List Nd} {L : List Int} {j i : Nat} {n : Nd} (hj : L[j]? = some (i : Int)) (hn : ns[i]? = some n) : (pickNs ns L)[j]? = some ⟨n.kind, n.value, n.kids.map (place L)⟩ := by
  unfold pickNs
  rw [List.getElem?_map, hj]
  simp [pickN_at hn]

theorem place_inj {L : List Int} {x y : Int} (hx : x ∈ L) (hy : y ∈ L) (h : place L x = place L y) : x = y := by
  rw [place_pos hx, place_pos hy] at h
  have h1 : L.idxOf x = L.idxOf y := by omega
  have h2 := List.getElem_idxOf (List.idxOf_lt_length_of_mem hx)
  have h3 := List.getElem_idxOf (List.idxOf_lt_length_of_mem hy)
  rw [← h2, ← h3]
  congr 1

theorem place_get {L : List Int} (hn : L.Nodup) {j : Nat} {x : Int} (hj : L[j]? = some x) : place L x = (j : Int) := by
  refine place_at hj (fun i hi e => ?_)
  obtain ⟨h1, h2⟩ := List.getElem?_eq_some_iff.1 hj
  obtain ⟨h3, h4⟩ := List.getElem?_eq_some_iff.1 e
  have := (List.getElem_inj hn).1 (h4.trans h2.symm)
  omega

theorem iso_pick {ns : List Nd} {r : Int} {L : List Int} (hp : Pickable ns r L) : Iso ns (pickNs ns L) (fun x => x ∈ L) (place L) := by
  refine ⟨hp.range, fun x hx => ?_, fun x y hx hy => place_inj hx hy, fun i n hi hn => ?_, fun i n hi hn => (hp.closed i n hi hn).2⟩
  · have := place_lt hx
    rw [pickNs_len]
    exact this
  · rw [place_pos hi, Int.toNat_natCast]
    refine pick_at ?_ hn
    have h := List.idxOf_lt_length_of_mem hi
    rw [List.getElem?_eq_getElem h, List.getElem_idxOf h]

theorem pick_onto {ns : List Nd} {r : Int} {L : List Int} (hp : Pickable ns r L) : ∀ j : Nat, j < (pickNs ns L).length → ∃ x, x ∈ L ∧ place L x = (j : Int) := by
  intro j hj
  rw [pickNs_len] at hj
  exact ⟨L[j], List.getElem_mem hj, place_get hp.nodup (List.getElem?_eq_getElem hj)⟩

theorem pick_valid {ns : List Nd} {r : Int} {L : List Int} (hv : ValidG ns r) (hp : Pickable ns r L) : ValidG (pickNs ns L) (place L r) :=
  (iso_pick hp).valid hv hp.root (pick_onto hp) (by rw [pickNs_len]; exact hp.few)

theorem pick_wf {ns : List Nd} {r : Int} {L : List Int} (hv : ValidG ns r) (hp : Pickable ns r L) : Wf (pickNs ns L) := by
  have hw := pick_valid hv hp
  intro n hn
  have hok := hw.nodes n hn
  have hk := hok.kind
  unfold KindOk at hk
  have h6 := hok.few
  have hf := hw.few
  refine ⟨?_, ?_, fun x hx => ?_, by omega⟩
  · constructor <;> omega
  · constructor <;> omega
  · have := hok.inn x hx
    constructor <;> omega

theorem pick_code {ns : List Nd} {r : Int} {L : List Int} (hv : ValidG ns r) (hp : Pickable ns r L) : codeOf (pickNs ns L) (place L r) = codeOf ns r := by
  have hw := pick_valid hv hp
  unfold codeOf
  rw [if_pos hv, if_pos hw]
  refine (iso_pick hp).code hv hw (pick_wf hv hp) hp.root ?_
  rw [pickNs_len]
  exact nodup_le _ _ hp.nodup hp.range

end Go.Proofs.Ytcahmcnppamebac

namespace Go.Proofs.Ytcahmcnppamebac
open Go.RowKit
set_option linter.unusedVariables false

/-- a list that has each of n indices once -/
structure IsOrd (os : List Int) (n : Nat) : Prop where
  len : os.length = n
  rng : ∀ x ∈ os, 0 ≤ x ∧ x < n
  nd : os.Nodup

/-- the nodes by their new indices -/
def invOf (os : List Int) : List Int := (List.range os.length).map fun (j : Nat) => place os (j : Int)

theorem invOf_len (os : List Int) : (invOf os).length = os.length := by simp [invOf]
theorem invOf_at {os : List Int} {j : Nat} (h : j < os.length) : (invOf os)[j]? = some (place os (j : Int)) := by
  unfold invOf
  rw [List.getElem?_map, List.getElem?_range h]
  rfl

theorem IsOrd.onto {os : List Int} {n : Nat} (h : IsOrd os n) {j : Int} (h0 : 0 ≤ j) (h1 : j < n) : j ∈ os := by
  by_cases hm : j ∈ os
  · exact hm
  · exfalso
    have hup : ((List.range n).map fun (i : Nat) => (i : Int)).length = n := by simp
    have hjm : j ∈ (List.range n).map fun (i : Nat) => (i : Int) := by
      obtain ⟨i, rfl⟩ := Int.eq_ofNat_of_zero_le h0
      exact List.mem_map.2 ⟨i, List.mem_range.2 (by omega), rfl⟩
    have h2 := nodup_le_len os (((List.range n).map fun (i : Nat) => (i : Int)).erase j) h.nd (fun x hx => by
      have hx2 := h.rng x hx
      obtain ⟨i, rfl⟩ := Int.eq_ofNat_of_zero_le hx2.1
      exact (List.mem_erase_of_ne (fun e => hm (by rw [← e]; exact hx))).2 (List.mem_map.2 ⟨i, List.mem_range.2 (by omega), rfl⟩))
    have h3 := List.length_erase_of_mem hjm
    have h4 := h.len
    rw [hup] at h3
    omega

theorem IsOrd.inv {os : List Int} {n : Nat} (h : IsOrd os n) {i : Nat} {x : Int} (hi : os[i]? = some x) : (invOf os)[x.toNat]? = some (i : Int) := by
  have hx := h.rng x (List.mem_of_getElem? hi)
  obtain ⟨j, rfl⟩ := Int.eq_ofNat_of_zero_le hx.1
  rw [Int.toNat_natCast, invOf_at (by rw [h.len]; omega), place_get h.nd hi]

theorem IsOrd.inv_nodup {os : List Int} {n : Nat} (h : IsOrd os n) : (invOf os).Nodup := by
  rw [List.nodup_iff_pairwise_ne, List.pairwise_iff_getElem]
  intro i j hi hj hij e
  rw [invOf_len] at hi hj
  have e1 := invOf_at hi
  have e2 := invOf_at hj
  have hi2 : i < (invOf os).length := by rw [invOf_len]; exact hi
  have hj2 : j < (invOf os).length := by rw [invOf_len]; exact hj
  rw [List.getElem?_eq_getElem hi2] at e1
  rw [List.getElem?_eq_getElem hj2] at e2
  injection e1 with e1
  injection e2 with e2
  have m1 := h.onto (j := (i : Int)) (by omega) (by rw [← h.len]; omega)
  have m2 := h.onto (j := (j : Int)) (by omega) (by rw [← h.len]; omega)
  have := place_inj m1 m2 (e1.symm.trans (e.trans e2))
  omega

theorem IsOrd.place {os : List Int} {n : Nat} (h : IsOrd os n) {i : Nat} {x : Int} (hi : os[i]? = some x) : place (invOf os) (i : Int) = x := by
  have hx := h.rng x (List.mem_of_getElem? hi)
  obtain ⟨j, rfl⟩ := Int.eq_ofNat_of_zero_le hx.1
  have := h.inv hi
  rw [Int.toNat_natCast] at this
  exact place_get h.inv_nodup this

theorem IsOrd.mem {os : List Int} {n : Nat} (h : IsOrd os n) {i : Nat} (hi : i < n) : (i : Int) ∈ invOf os := by
  have hi2 : i < os.length := by rw [h.len]; exact hi
  exact List.mem_of_getElem? (h.inv (List.getElem?_eq_getElem hi2))

theorem IsOrd.pickable {ns : List Nd} {r : Int} {os : List Int} (hv : ValidG ns r) (h : IsOrd os ns.length) : Pickable ns r (invOf os) := by
  have hall : ∀ x : Int, 0 ≤ x → x < ns.length → x ∈ invOf os := by
    intro x h0 h1
    obtain ⟨i, rfl⟩ := Int.eq_ofNat_of_zero_le h0
    exact h.mem (by omega)
  refine ⟨h.inv_nodup, fun x hx => ?_, fun i n hi hn => ⟨?_, fun k hk => ?_⟩, hall r hv.root0 hv.root, by rw [invOf_len, h.len]; exact hv.few, hv.few⟩
  · obtain ⟨j, hj, rfl⟩ := List.mem_map.1 hx
    have hj2 := List.mem_range.1 hj
    have := place_lt (h.onto (j := (j : Int)) (by omega) (by rw [← h.len]; omega))
    rw [h.len] at this
    exact this
  · have := (hv.nodes n (List.mem_of_getElem? hn)).few
    omega
  · have := (hv.nodes n (List.mem_of_getElem? hn)).inn k hk
    exact hall k this.1 this.2

open Classical in
/-- the graph with new indices; none for other arguments -/
noncomputable def renNs (ns : List Nd) (r : Int) (os : List Int) : List Nd := if ValidG ns r ∧ IsOrd os ns.length then pickNs ns (invOf os) else []
open Classical in
noncomputable def renR (ns : List Nd) (r : Int) (os : List Int) : Int := if ValidG ns r ∧ IsOrd os ns.length then Go.Proofs.Ytcahmcnppamebac.place (invOf os) r else 0

end Go.Proofs.Ytcahmcnppamebac
