/-
  More on slices that the call owns: capacities, beginnings. Plain lemmas, no walk.
-/
import Derived.Test.YtfhmmdiicnfjbaaDoorOwnO
namespace Go.Proofs.YtfhmmdiicnfjbaaDoor
open Go.RowKit
set_option linter.unusedVariables false

theorem OwnI.capX {w : World} {base : Nat} {A : Option Addr} {c : Nat} {xs : List Int} (h : OwnI w base A c xs) : xs.length ≤ c := by
  rcases h.own with ⟨hl, hh⟩
  rcases hh with ⟨h1, h2⟩ | ⟨g, cap, cur, hv, hg, hh, hle, hm, hs, hx⟩
  · rw [h2]; exact Nat.zero_le _
  · injection hv with _ _ hc
    subst hc
    exact hle
theorem OwnO.capX {w : World} {base : Nat} {A : Option Addr} {c : Nat} {xs : List Od} (h : OwnO w base A c xs) : xs.length ≤ c := by
  rcases h.own with ⟨hl, hh⟩
  rcases hh with ⟨h1, h2⟩ | ⟨g, cap, cur, hv, hg, hh, hle, hm, hs, hx⟩
  · rw [h2]; exact Nat.zero_le _
  · injection hv with _ _ hc
    subst hc
    exact hle
theorem opVals_takeX (os : List Od) (k : Nat) : (opVals os).take (k * 2) = opVals (os.take k) := by
  induction os generalizing k with
  | nil => simp [opVals]
  | cons o os ih =>
    cases k with
    | zero => simp [opVals]
    | succ k => rw [opVals_cons, List.take_succ_cons, opVals_cons, show (k + 1) * 2 = k * 2 + 1 + 1 by omega, List.take_succ_cons, List.take_succ_cons, ih]
theorem OwnO.cutX {w : World} {base c : Nat} {A : Option Addr} {os : List Od} (h : OwnO w base A c os) {k : Nat} (hk : k ≤ os.length) : OwnO w base A c (os.take k) := by
  have hl : (os.take k).length = k := by simp; omega
  refine ⟨by rw [opVals_len], ?_⟩
  rcases h.own.2 with ⟨h1, h2⟩ | ⟨g', cap, cur, hv, hg, hh, h4, h5, h6, h7⟩
  · injection h1 with e1 _ e3
    subst e1; subst e3
    have : k = 0 := by omega
    subst this
    exact .inl ⟨by simp, by simp⟩
  · injection hv with hv _ hv2
    subst hv2
    refine .inr ⟨g', c, cur, by rw [hv], hg, hh, by omega, h5, h6, ?_⟩
    rw [hl, ← opVals_takeX, ← h7, List.take_take]
    congr 1
    omega
theorem OwnO.nilX {w : World} {base : Nat} {A : Option Addr} {c : Nat} {xs : List Od} (h : OwnO w base A c xs) : A = none → c = 0 := by
  intro e
  rcases h.form with ⟨_, h2, _⟩ | ⟨g, h2, _⟩
  · exact h2
  · rw [e] at h2; cases h2

/-- orders of the call's own -/
def GivesOw (w : World) (os : List Od) (e : Ending) (w' : World) : Prop := ∃ A c, e = .returned (.slice A os.length c) ∧ OwnO w' w.heap.size A c os ∧ Below w.heap.size w w'

end Go.Proofs.YtfhmmdiicnfjbaaDoor
