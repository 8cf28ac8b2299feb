/-
  The library's Sort over an int slice of the call's own.
-/
import Derived.Test.YtmpplimghjkjaaePkA
import Derived.Test.YtmpplimghjkjaaeShelf
import Derived.Sort.OwnSortedInts
namespace Go.Proofs.Ytmpplimghjkjaae
open Go.RowKit Go.Sort

theorem sortI_any (base : Nat) (A : Option Addr) (c : Nat) (xs : List Int) (w : World) (h : OwnI w base A c xs) (hl : xs.length ≤ 1048576) :
    Calls Try.prog 27 #[.slice A xs.length c] w fun e w' => e = .returned (.tuple #[]) ∧ OwnI w' base A c (xs.mergeSort fun x y => decide (x ≤ y)) ∧ w.grownBy w' (blockOf A) := by
  rcases h.own.2 with ⟨h1, h2⟩ | ⟨g, cap, cur, hv, hg, hh, h3, h4, h5, h6⟩
  · obtain rfl := List.eq_nil_of_length_eq_zero h2
    refine (Try.slices_Sort_int_none A c w).mono ?_
    rintro e w' ⟨rfl, rfl⟩
    exact ⟨rfl, by simpa using h, World.grownBy.refl _ _⟩
  · injection hv with hv _ hc
    subst hv
    subst hc
    rw [Nat.mul_one] at h6
    refine (Try.slices_Sort_int g 0 c xs w (holds_of_blockI hh h6) (lt_of_block hh) (by omega)).mono ?_
    rintro e w' ⟨rfl, n, os, rfl⟩
    refine ⟨rfl, ⟨?_⟩, grownBy_sortedI _⟩
    have := ownsRow_sortedI (n := n) (os := os) (ss := xs) (ts := xs.mergeSort fun x y => decide (x ≤ y)) (List.length_mergeSort xs) hg hh h3 h4 h5
    rw [List.length_mergeSort]
    exact this

end Go.Proofs.Ytmpplimghjkjaae
