/-
  The model's copyInts: what it returns.
-/
import Derived.Test.YthgklkpfmjgeoaaPjAa
namespace Go.Proofs.Ythgklkpfmjgeoaa
open Go.RowKit

set_option maxHeartbeats 400000 in
theorem copyInts_any (A : Option Addr) (xs : List Int) (c : Nat) (w : World) (h : IntsAt w w.heap.size A xs) (hnil : A = none → c = 0) (hs : xs.length ≤ 16777000) :
    Calls Try.prog 56 #[.slice A xs.length c] w (GivesInts w xs) := by
  go_enter Try.func56, Try.ntmps56
  go_wp2_with (at_builtin; refine append_ints rfl (.tmp 3) (.tmp 4) rfl w.heap.size _ 0 [] rfl (OwnI.bare w) w.heap.size A c xs rfl hnil (h.below ((Below.refl _ _).alloc (Nat.le_refl _) _)) (by simp; omega) (by simp) ?_; intro zs A' c' w' hz hown hg hat)
  go_ret
  obtain rfl : zs = xs := by simpa [Hid] using hz
  exact ⟨A', c', rfl, hown, below_grown ((Below.refl _ _).alloc (Nat.le_refl _) _) hg (by simp) (by simp [blockOf])⟩

end Go.Proofs.Ythgklkpfmjgeoaa
