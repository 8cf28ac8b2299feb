/-
  A list that ascends is told by its members; what sorting the nodes on cycles gives. Plain lemmas, no walk.
-/
import Derived.Test.YtmpplimghjkjaaeCycP
namespace Go.Proofs.Ytmpplimghjkjaae

theorem asc_ext : ∀ {xs ys : List Int}, xs.Pairwise (· < ·) → ys.Pairwise (· < ·) → (∀ z, z ∈ xs ↔ z ∈ ys) → xs = ys
  | [], [], _, _, _ => rfl
  | [], y :: ys, _, _, h => by have := (h y).2 (by simp); cases this
  | x :: xs, [], _, _, h => by have := (h x).1 (by simp); cases this
  | x :: xs, y :: ys, h1, h2, h => by
    rw [List.pairwise_cons] at h1 h2
    have hxy : x = y := by
      rcases List.mem_cons.1 ((h x).1 (by simp)) with e | e
      · exact e
      · rcases List.mem_cons.1 ((h y).2 (by simp)) with e' | e'
        · exact e'.symm
        · have := h1.1 y e'; have := h2.1 x e; omega
    subst hxy
    rw [asc_ext h1.2 h2.2 (fun z => ?_)]
    have hx1 : x ∉ xs := fun e => by have := h1.1 x e; omega
    have hx2 : x ∉ ys := fun e => by have := h2.1 x e; omega
    constructor
    · intro hz
      rcases List.mem_cons.1 ((h z).1 (List.mem_cons_of_mem _ hz)) with e | e
      · subst e; exact absurd hz hx1
      · exact e
    · intro hz
      rcases List.mem_cons.1 ((h z).2 (List.mem_cons_of_mem _ hz)) with e | e
      · subst e; exact absurd hz hx2
      · exact e

theorem pickTo_asc (p : Nat → Bool) (k : Nat) : (pickTo p k).Pairwise (· < ·) := by
  unfold pickTo
  rw [List.pairwise_map]
  exact (List.Pairwise.filter p List.pairwise_lt_range).imp (fun h => by omega)

theorem mem_pickTo {p : Nat → Bool} {k : Nat} {z : Int} : z ∈ pickTo p k ↔ ∃ i : Nat, i < k ∧ p i = true ∧ (i : Int) = z := by
  unfold pickTo
  simp only [List.mem_map, List.mem_filter, List.mem_range]
  constructor
  · rintro ⟨i, ⟨h1, h2⟩, h3⟩; exact ⟨i, h1, h2, h3⟩
  · rintro ⟨i, h1, h2, h3⟩; exact ⟨i, ⟨h1, h2⟩, h3⟩

theorem sort_asc {xs : List Int} (h : xs.Nodup) : (xs.mergeSort fun x y => decide (x ≤ y)).Pairwise (· < ·) := by
  have h1 : (xs.mergeSort fun x y => decide (x ≤ y)).Pairwise fun x y => decide (x ≤ y) = true :=
    List.pairwise_mergeSort (fun a b c h1 h2 => by simp at h1 h2 ⊢; omega) (fun a b => by simp; omega) xs
  have h2 : (xs.mergeSort fun x y => decide (x ≤ y)).Nodup := (List.mergeSort_perm xs _).nodup_iff.2 h
  exact (h1.and h2).imp fun ⟨a, b⟩ => by simp at a; omega

/-- those of the nodes that are met from which a way leads back -/
noncomputable def cycIn (ns : List Nd) (R : List Int) : List Int := R.filter fun x => tf (OnCyc ns x)

theorem cycIn_yes {ns : List Nd} {R : List Int} {k : Nat} {x : Int} (hx : R[k]? = some x) (h : OnCyc ns x) : cycIn ns (R.take (k + 1)) = cycIn ns (R.take k) ++ [x] := by
  unfold cycIn
  rw [List.take_add_one, hx, Option.toList_some, List.filter_append]
  simp [tf_true h]

theorem cycIn_no {ns : List Nd} {R : List Int} {k : Nat} {x : Int} (hx : R[k]? = some x) (h : ¬ OnCyc ns x) : cycIn ns (R.take (k + 1)) = cycIn ns (R.take k) := by
  unfold cycIn
  rw [List.take_add_one, hx, Option.toList_some, List.filter_append]
  simp [tf_false h]

theorem cycIn_len (ns : List Nd) (R : List Int) : (cycIn ns R).length ≤ R.length := List.length_filter_le _ _

theorem cycIn_sub {ns : List Nd} {R : List Int} : ∀ x ∈ cycIn ns R, x ∈ R := fun _ hx => (List.mem_filter.1 hx).1

theorem sort_cycles {ns : List Nd} {r : Int} (hv : ValidG ns r) : ((cycIn ns (reachOf ns r)).mergeSort fun x y => decide (x ≤ y)) = cyclesOf ns r := by
  unfold cyclesOf
  rw [if_pos hv]
  have hm : Met ns (reachOf ns r) := reachOf_met
  refine asc_ext (sort_asc (hm.nodup.filter _)) (pickTo_asc _ _) fun z => ?_
  rw [List.mem_mergeSort, mem_pickTo]
  unfold cycIn isCyc
  rw [List.mem_filter]
  constructor
  · rintro ⟨h1, h2⟩
    obtain ⟨h3, h4⟩ := hm.range z h1
    obtain ⟨i, rfl⟩ := Int.eq_ofNat_of_zero_le h3
    exact ⟨i, by omega, by rw [tf_true h1, h2]; rfl, rfl⟩
  · rintro ⟨i, h1, h2, rfl⟩
    rw [Bool.and_eq_true] at h2
    refine ⟨?_, h2.2⟩
    by_cases h : (i : Int) ∈ reachOf ns r
    · exact h
    · rw [tf_false h] at h2; cases h2.1

end Go.Proofs.Ytmpplimghjkjaae
