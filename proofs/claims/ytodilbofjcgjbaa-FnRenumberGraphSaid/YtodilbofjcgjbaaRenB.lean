/-
  A graph that is renumbered, and renumbered back: mathematics only.
-/
import Derived.Test.YtodilbofjcgjbaaRenM
import Derived.Test.YtodilbofjcgjbaaCodM
namespace Go.Proofs.Ytodilbofjcgjbaa
open Go.RowKit
set_option linter.unusedVariables false

theorem IsOrd.back {os : List Int} {n : Nat} (h : IsOrd os n) : IsOrd (invOf os) n := by
  refine ⟨by rw [invOf_len, h.len], fun x hx => ?_, h.inv_nodup⟩
  obtain ⟨j, hj, rfl⟩ := List.mem_map.1 hx
  have hj2 := List.mem_range.1 hj
  have := place_lt (h.onto (j := (j : Int)) (by omega) (by rw [← h.len]; omega))
  rw [h.len] at this
  exact this

theorem IsOrd.twice {os : List Int} {n : Nat} (h : IsOrd os n) : invOf (invOf os) = os := by
  apply List.ext_getElem?
  intro j
  by_cases hj : j < os.length
  · rw [invOf_at (by rw [invOf_len]; exact hj), h.place (List.getElem?_eq_getElem hj), List.getElem?_eq_getElem hj]
  · rw [List.getElem?_eq_none (by rw [invOf_len, invOf_len]; omega), List.getElem?_eq_none (by omega)]

theorem ren_yes {ns : List Nd} {r : Int} {os : List Int} (hv : ValidG ns r) (h : IsOrd os ns.length) : renNs ns r os = pickNs ns (invOf os) ∧ renR ns r os = place (invOf os) r := by
  unfold renNs renR
  rw [if_pos ⟨hv, h⟩, if_pos ⟨hv, h⟩]
  exact ⟨rfl, rfl⟩

theorem ren_valid {ns : List Nd} {r : Int} {os : List Int} (hv : ValidG ns r) (h : IsOrd os ns.length) : ValidG (renNs ns r os) (renR ns r os) ∧ codeOf (renNs ns r os) (renR ns r os) = codeOf ns r ∧ (renNs ns r os).length = ns.length := by
  obtain ⟨e1, e2⟩ := ren_yes hv h
  rw [e1, e2]
  exact ⟨pick_valid hv (h.pickable hv), pick_code hv (h.pickable hv), by rw [pickNs_len, invOf_len, h.len]⟩

/-- renumbered back it is the graph -/
theorem ren_back {ns : List Nd} {r : Int} {os : List Int} (hv : ValidG ns r) (h : IsOrd os ns.length) : renNs (renNs ns r os) (renR ns r os) (invOf os) = ns ∧ renR (renNs ns r os) (renR ns r os) (invOf os) = r := by
  obtain ⟨hw, _, hlen⟩ := ren_valid hv h
  have hb : IsOrd (invOf os) (renNs ns r os).length := by rw [hlen]; exact h.back
  obtain ⟨e1, e2⟩ := ren_yes hw hb
  obtain ⟨f1, f2⟩ := ren_yes hv h
  rw [e1, e2, h.twice]
  obtain ⟨ri, rfl⟩ := Int.eq_ofNat_of_zero_le hv.root0
  have hri : ri < os.length := by have := hv.root; have := h.len; omega
  constructor
  · apply List.ext_getElem?
    intro j
    by_cases hj : j < ns.length
    · have hjo : j < os.length := by rw [h.len]; exact hj
      have hat := List.getElem?_eq_getElem hjo
      have hx := h.rng _ (List.getElem_mem hjo)
      generalize os[j] = x at hat hx
      obtain ⟨p, rfl⟩ := Int.eq_ofNat_of_zero_le hx.1
      have hinv := h.inv hat
      rw [Int.toNat_natCast] at hinv
      have hnode := pick_at hinv (List.getElem?_eq_getElem hj)
      rw [f1, pick_at hat hnode, List.getElem?_eq_getElem hj]
      simp only [Option.some.injEq]
      have hok := (hv.nodes _ (List.getElem_mem hj)).inn
      generalize ns[j] = m at hok
      have hk : (m.kids.map (place (invOf os))).map (place os) = m.kids := by
        rw [List.map_map]
        conv => rhs; rw [← List.map_id m.kids]
        apply List.map_congr_left
        intro y hy
        have hy2 := hok y hy
        obtain ⟨q, rfl⟩ := Int.eq_ofNat_of_zero_le hy2.1
        have hq : q < os.length := by rw [h.len]; omega
        show place os (place (invOf os) (q : Int)) = (q : Int)
        rw [h.place (List.getElem?_eq_getElem hq)]
        exact place_get h.nd (List.getElem?_eq_getElem hq)
      rw [hk]
    · rw [List.getElem?_eq_none (by rw [pickNs_len, h.len]; omega), List.getElem?_eq_none (by omega)]
  · rw [f2, h.place (List.getElem?_eq_getElem hri)]
    exact place_get h.nd (List.getElem?_eq_getElem hri)

end Go.Proofs.Ytodilbofjcgjbaa
