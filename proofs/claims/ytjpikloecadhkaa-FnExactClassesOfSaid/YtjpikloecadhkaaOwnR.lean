/-
  Own int slices as rows. Plain lemmas, no walk.
-/
import Derived.Test.YtjpikloecadhkaaOnly
namespace Go.Proofs.Ytjpikloecadhkaa
open Go.RowKit
set_option linter.unusedVariables false


/-- a row behind an owned int slice -/
theorem OwnI.row {w : World} {base g : Nat} {c : Nat} {xs : List Int} (h : OwnI w base (some ⟨g, 0, none⟩) c xs) :
    ∃ (cap : Nat) (f : Nat → Value), w.rowIs g 3 cap f ∧ xs.length ≤ cap ∧ cap ≤ maxLen ∧ c = cap ∧ base ≤ g := by
  rcases h.own.2 with ⟨h1, _⟩ | ⟨g', cap, cur, hv, hg, hh, hn, hm, hs, _⟩
  · injection h1 with h1
    cases h1
  · injection hv with hv _ hc
    obtain rfl : g = g' := by simpa using hv
    refine ⟨cap, fun i => (cur[i]?).getD undef, ⟨cur, hh, by simpa using hs, fun i hi => ?_⟩, hn, hm, hc, hg⟩
    have : i < cur.size := by rw [hs]; omega
    show _ = some ((cur[i]?).getD undef)
    rw [Array.getElem?_eq_getElem this]; rfl

theorem OwnI.of_row {w : World} {base g cap : Nat} {f : Nat → Value} {xs : List Int} (h : w.rowIs g 3 cap f) (hl : xs.length ≤ cap) (hm : cap ≤ maxLen) (hb : base ≤ g) (hf : ∀ i x, xs[i]? = some x → f i = .int .i64 x) :
    OwnI w base (some ⟨g, 0, none⟩) cap xs := by
  obtain ⟨cur, hh, hs, hc⟩ := h
  refine ⟨⟨by simp, .inr ⟨g, cap, cur, rfl, hb, hh, hl, hm, by simpa using hs, ?_⟩⟩⟩
  apply List.ext_getElem?
  intro i
  rw [List.getElem?_take, List.getElem?_map]
  by_cases hi : i < xs.length
  · rw [if_pos (by omega), Array.getElem?_toList, hc i (by omega), List.getElem?_eq_getElem hi]
    simp [hf i _ (List.getElem?_eq_getElem hi)]
  · rw [if_neg (by omega), List.getElem?_eq_none (by omega)]
    rfl

end Go.Proofs.Ytjpikloecadhkaa
