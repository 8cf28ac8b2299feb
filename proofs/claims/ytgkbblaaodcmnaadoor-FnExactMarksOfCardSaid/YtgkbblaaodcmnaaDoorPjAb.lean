/-
  Lemmas, several texts in one: SpecCp, SzI, EqI.
-/
import Derived.Test.YtgkbblaaodcmnaaDoorOwn
import Derived.Test.YtgkbblaaodcmnaaDoorMem
namespace Go.Proofs.YtgkbblaaodcmnaaDoor
open Go.RowKit

set_option maxHeartbeats 400000 in
theorem copyInts_any (A : Option Addr) (xs : List Int) (c : Nat) (w : World) (h : IntsAt w w.heap.size A xs) (hnil : A = none → c = 0) (hs : xs.length ≤ 16777000) :
    Calls Tryd.prog 32 #[.slice A xs.length c] w (GivesInts w xs) := by
  go_enter Tryd.func32, Tryd.ntmps32
  go_wp2_with (at_builtin; refine append_ints rfl (.tmp 3) (.tmp 4) rfl w.heap.size _ 0 [] rfl (OwnI.bare w) w.heap.size A c xs rfl hnil (h.below ((Below.refl _ _).alloc (Nat.le_refl _) _)) (by simp; omega) (by simp) ?_; intro zs A' c' w' hz hown hg hat)
  go_ret
  obtain rfl : zs = xs := by simpa [Hid] using hz
  exact ⟨A', c', rfl, hown, below_grown ((Below.refl _ _).alloc (Nat.le_refl _) _) hg (by simp) (by simp [blockOf])⟩

end Go.Proofs.YtgkbblaaodcmnaaDoor

namespace Go.Proofs.YtgkbblaaodcmnaaDoor

/-- what szIntS counts -/
def szI (n : Nat) (left : Int) : Int := if left - n < 0 then -1 else left - n

theorem szI_le (n : Nat) (left : Int) (h1 : left ≤ 1048576) (h0 : 0 ≤ left) : szI n left ≤ left ∧ -1 ≤ szI n left := by
  unfold szI; split <;> omega

end Go.Proofs.YtgkbblaaodcmnaaDoor

namespace Go.Proofs.YtgkbblaaodcmnaaDoor

theorem eq_of_prefix {α : Type} [DecidableEq α] {xs ys : List α} (h : xs.length = ys.length) {k : Nat} (hk : k = xs.length) (he : ∀ j, j < k → xs[j]? = ys[j]?) : xs = ys := by
  apply List.ext_getElem?
  intro j
  by_cases hj : j < k
  · exact he j hj
  · rw [List.getElem?_eq_none (by omega), List.getElem?_eq_none (by omega)]

end Go.Proofs.YtgkbblaaodcmnaaDoor
